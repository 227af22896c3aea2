import Derived.Test.YtjbjaklbckhodaaAll
import Derived.Test.YtjbjaklbckhodaaSameC
import Derived.Laws.EntriesVeiled
import Derived.Sort.CutIn
namespace Go.Proofs.Ytjbjaklbckhodaa
open Go.RowKit Go.Shelf
set_option maxRecDepth 100000
attribute [local go_sem] Oper.semAt_some

/-- New and the document's Of make the same stretches. -/
theorem new_of {L L' P : List Rg} (hw : ∀ r ∈ L, 0 ≤ r.1 ∧ r.2 ≤ 18446744073709551615) (hL : L'.Perm L) (hP : P.Perm (L.filter fun r => decide (r.1 < r.2))) (hp : P.Pairwise (fun a b => a.1 ≤ b.1)) : ofL P = addAll L' := by
  have h1 := of_is hw hP hp
  have hw' : ∀ r ∈ L', 0 ≤ r.1 ∧ r.2 ≤ 18446744073709551615 := fun r hr => hw r (hL.mem_iff.1 hr)
  have h2 := addAll_fit L' hw' L'.length (Nat.le_refl _)
  have h3 := fun y => addAll_mem L' hw' y L'.length (Nat.le_refl _)
  rw [List.take_length] at h2
  simp only [List.take_length] at h3
  refine fit_ext _ _ h1.1 h2.1 fun y => (h1.2 y).trans (((h3 y).trans ?_).symm)
  unfold mem
  constructor
  · rintro ⟨r, hr, h⟩; exact ⟨r, hL.mem_iff.1 hr, h⟩
  · rintro ⟨r, hr, h⟩; exact ⟨r, hL.mem_iff.2 hr, h⟩

theorem allL_lt {M : List Rg} {m : Int} (h : 0 < m ∧ m < (M.length : Int)) : allL M m = M.take m.toNat := if_pos ⟨by omega, by omega⟩
theorem allL_ge {M : List Rg} {m : Int} (h : ¬ (0 < m ∧ m < (M.length : Int))) : allL M m = M := by
  unfold allL
  split
  · rw [show m.toNat = M.length by omega, List.take_length]
  · rfl
theorem own_room {w : World} {B : Nat} {a : Option Addr} {c : Nat} {L : List Rg} (h : w.ownsRow B 29 2 (.slice a L.length c) L.length (flat L)) : L.length ≤ c := by
  rcases h.2 with ⟨e, hn⟩ | ⟨g, cap, cur, e, _, _, hc, _⟩
  · omega
  · simp at e; omega
theorem own_turned {w w' : World} {base : Nat} {e : TypeId} {size : Nat} {v u u' : Value} {n p : Nat} {xs : List Value} (h : w.ownsRow base e size v n xs) (T : Turned w w' p u u') (hne : ∀ g, v.ownBlock = some g → g ≠ p ∧ some g ≠ u.ownBlock) : w'.ownsRow base e size v n xs := by
  refine ⟨h.1, ?_⟩
  rcases h.2 with ⟨rfl, h0⟩ | ⟨g, cap, cur, rfl, h1, h2, h3⟩
  · exact .inl ⟨rfl, h0⟩
  · refine .inr ⟨g, cap, cur, rfl, h1, ?_, h3⟩
    exact (T.block g (Array.getElem?_eq_some_iff.1 h2).1 (hne g rfl).1 (hne g rfl).2).trans h2
theorem same_below {w : World} {a a' : Option Addr} {c c' : Nat} {L : List Rg} (C : Cells w a L) (D : Cells w a' L) (hf : L.length * 16 ≤ 140737488355328) :
    Calls Try.prog 12 #[.slice a L.length c, .slice a' L.length c'] w fun e w' => e = .returned (.bool true) ∧ Below w.heap.size w w' :=
  (same_cells C D hf).mono fun _ _ ⟨h, q, hq⟩ => ⟨h, by rw [hq]; exact below_drewN (Below.refl _ _) q⟩
/-- How many have been counted, as an int. -/
def howMany (k : Nat) : Int := wrap64 (k : Int)
theorem howMany_succ (k : Nat) : wrap64 (howMany k + 1) = howMany (k + 1) := by unfold howMany wrap64; omega
theorem howMany_mul (k : Nat) : howMany (k * k) = wrap64 ((k : Int) * (k : Int)) := by unfold howMany; rw [Int.natCast_mul]
theorem own_cells_at {w : World} {B : Nat} {a : Option Addr} {c : Nat} {L : List Rg} (h : w.ownsRow B 29 2 (.slice a L.length c) L.length (flat L)) : Cells w a L := by
  obtain ⟨a', c', e, hC⟩ := own_cells h
  cases e
  exact hC
theorem allL_zero (M : List Rg) : allL M 0 = M := if_neg (by omega)
theorem allL_len (M : List Rg) (m : Int) : (allL M m).length ≤ M.length := by
  unfold allL
  split
  · rw [List.length_take]; omega
  · exact Nat.le_refl _
theorem cells_take {w : World} {a : Option Addr} {L : List Rg} (C : Cells w a L) (k : Nat) : Cells w a (L.take k) := by
  refine ⟨fun h => ?_⟩
  obtain ⟨ad, e, hc⟩ := C.row (fun e => h (by rw [e]; simp))
  refine ⟨ad, e, fun j v hj => hc j v ?_⟩
  have hl : L = L.take k ++ L.drop k := (List.take_append_drop k L).symm
  rw [hl, flat_append]
  rw [List.getElem?_append_left (List.getElem?_eq_some_iff.1 hj).1]
  exact hj
theorem cells_all {w : World} {a : Option Addr} {L : List Rg} (C : Cells w a L) (m : Int) : Cells w a (allL L m) := by
  unfold allL
  split
  · exact cells_take C _
  · exact C

set_option maxHeartbeats 4000000 in
theorem stops_any {w : World} {a : Option Addr} {cap : Nat} {L : List Rg} (C : Cells w a L) (hf : (L.length + 4) * 16 ≤ 140737488355328) (hw : ∀ r ∈ L, 0 ≤ r.1 ∧ r.2 ≤ 18446744073709551615) (stop rl rh : Int)
    (hr0 : 0 ≤ rl) (hr2 : rh ≤ 18446744073709551615) :
    Calls Try.prog 4 #[.slice a L.length cap, .int .i64 stop, .agg #[.int .u64 rl, .int .u64 rh]] w fun e w' => e = .returned (.bool true) ∧ Below w.heap.size w w' := by
  have hbx : Below w.heap.size w (w.alloc (.cells #[.int .u64 rl, .int .u64 rh] 29)) := below_box _ _
  have hN := new_any sort_any (cap := cap) (C.kept hbx) (by omega) hw
  have HOF := hid (fun (X : World) (hb : Below (w.alloc (.cells #[.int .u64 rl, .int .u64 rh] 29)).heap.size (w.alloc (.cells #[.int .u64 rl, .int .u64 rh] 29)) X) => of_any sorted_said (cap := cap) ((C.kept hbx).kept hb) (by omega) hw)
  have HW := hid hw
  have HBX := hid hbx
  have HR0 := box_cells w (.int .u64 rl) (.int .u64 rh)
  clear C hw hbx
  obtain ⟨hr0', hr1'⟩ := HR0
  have HC0 := hid hr0'
  have HC1 := hid hr1'
  clear hr0' hr1'
  refine (callsIn_wide (n := 6)).1 ?_
  refine callsIn_of_wp_marks Try.func4 rfl trivial ?_ rfl
  simp only [Try.ntmps4, List.size_toArray, List.length_cons, List.length_nil, Nat.reduceAdd, Nat.reduceSub, Array.replicate_succ, Array.replicate_zero, List.push_toArray, List.append_toArray, List.nil_append, List.cons_append]
  gi_wp2_with fail
  refine ⟨trivial, (callsIn_wide.2 hN).mono ?_⟩
  rintro e w1 ⟨p, rfl, v, L', hP, hO, hb1⟩
  obtain ⟨hF, hL⟩ := addAll_fit L' (fun r hr => HW.out r (hP.mem_iff.1 hr)) L'.length (Nat.le_refl _)
  rw [List.take_length, hP.length_eq] at hL
  rw [List.take_length] at hF
  have HEQ := hid (fun P => new_of (P := P) HW.out hP)
  generalize addAll L' = M at *
  have HOF1 := HOF.out w1 hb1
  have HB1 := hid hb1
  have HO1 := hid hO
  have HF := hid hF
  have HP1 := hid (Array.getElem?_eq_some_iff.1 hO.set.hp).1
  have HQ1 := hid (fun x (hx : v.ownBlock = some x) => (hO.set.own.lt x hx).2)
  clear hP hO hb1 hN hF HW HOF
  gi_wp2_with fail
  refine ⟨trivial, (callsIn_wide.2 HOF1).mono ?_⟩
  rintro e w2 ⟨v2, P, rfl, hP, hp, ho2, hb2⟩
  rw [HEQ.out P hP hp] at ho2
  clear hP hp HEQ HOF1
  have HB2 := hid (HB1.out.trans (hb2.mono HB1.out.size))
  have HO2 := hid (HO1.out.kept hb2)
  have hs1 := HB1.out.size
  have hs0 : (w.alloc (.cells #[.int .u64 rl, .int .u64 rh] 29)).heap.size = w.heap.size + 1 := by simp
  have HB := hid (HBX.out.trans (HB2.out.mono HBX.out.size))
  have c0 := cell_kept HB2.out HC0.out
  have c1 := cell_kept HB2.out HC1.out
  clear hb2 HB1 HO1 HC0 HC1 HBX HB2
  obtain ⟨a2, k2, rfl, hC2⟩ := own_cells ho2
  have HL2 := hid hC2
  have HOL := hid ho2
  clear hC2 ho2 hs1
  obtain ⟨av, cv, rfl, V⟩ := HO2.out.set.view (by omega)
  have HV := hid V
  clear V
  gi_upto_region 6 with fail
  gi_cut [31] from 17 (fun s31 wx => s31 = .bool (decide (0 < stop) && decide (stop < (M.length : Int))) ∧ wx = w2)
  case first =>
    by_cases h1 : 0 < stop
    · have d1 : decide (0 < stop) = true := decide_eq_true h1
      gi_wp2_with fail
      gi_meet
      case rel => exact ⟨by rw [d1]; rfl, rfl⟩
    · have d1 : decide (0 < stop) = false := decide_eq_false h1
      gi_wp2_with fail
      gi_meet
      case rel => exact ⟨by rw [d1]; rfl, rfl⟩
  case rest =>
  obtain ⟨rfl, hwc⟩ := hcut
  subst hwc
  obtain ⟨wd, hwd⟩ : ∃ wd, wd = wc := ⟨_, rfl⟩
  subst hwd
  have hk2 : M.length ≤ k2 := own_room HOL.out
  gi_upto_if 31 with fail
  gi_cut [9] from 17 (fun s9 wx => (∃ k9 : Nat, s9 = .slice a2 (allL M stop).length k9) ∧ wx = wd)
  case first =>
    by_cases h : 0 < stop ∧ stop < (M.length : Int)
    · obtain ⟨h1, h2⟩ := h
      have d1 : (decide (0 < stop) && decide (stop < (M.length : Int))) = true := by rw [decide_eq_true h1, decide_eq_true h2]; rfl
      have hk : stop ≤ (k2 : Int) := by omega
      have h0 : 0 ≤ stop := by omega
      have HAL := hid (allL_lt ⟨h1, h2⟩)
      rw [d1]
      gi_wp2_with fail
      gi_meet
      case rel => exact ⟨⟨k2, by rw [HAL.out, List.length_take, Nat.min_eq_left (by omega)]⟩, rfl⟩
    · have d1 : (decide (0 < stop) && decide (stop < (M.length : Int))) = false := by rw [← Bool.decide_and]; exact decide_eq_false h
      have HAL := hid (allL_ge h)
      rw [d1]
      gi_wp2_with fail
      gi_meet
      case rel => exact ⟨⟨k2, by rw [HAL.out]⟩, rfl⟩
  case rest =>
  obtain ⟨⟨k9, rfl⟩, hwc⟩ := hcut
  subst hwc
  obtain ⟨w3, hw3⟩ : ∃ w3, w3 = wc := ⟨_, rfl⟩
  subst hw3
  have hlen := allL_len M stop
  have HCA := hid (cells_all HL2.out stop)
  gi_wp2_with fail
  refine ⟨trivial, (callsIn_wide.2 (lall_any HV.out (by omega) stop)).mono ?_⟩
  rintro e w4 ⟨v4, rfl, ho4, hb4⟩
  obtain ⟨a4, k4, rfl, hC4⟩ := own_cells ho4
  have HV4 := hid (HV.out.kept hb4)
  have HO4 := hid (HO2.out.kept hb4)
  have HL4 := hid (HL2.out.kept hb4)
  have HCA4 := hid (HCA.out.kept hb4)
  have HB4 := hid (HB.out.trans (hb4.mono HB.out.size))
  have HG4 := hid hC4
  have HOL4 := hid (own_below HOL.out hb4)
  have d0 := cell_kept hb4 c0
  have d1 := cell_kept hb4 c1
  clear hb4 hC4 ho4 HOL HV HO2 HL2 HCA HB c0 c1
  gi_wp2_with fail
  refine ⟨trivial, (callsIn_wide.2 (lall_any HV4.out (by omega) 0)).mono ?_⟩
  rintro e w5 ⟨v5, rfl, ho5, hb5⟩
  rw [allL_zero] at ho5
  obtain ⟨a5, k5, rfl, hC5⟩ := own_cells ho5
  have HO5 := hid (HO4.out.kept hb5)
  have HL5 := hid (HL4.out.kept hb5)
  have HCA5 := hid (HCA4.out.kept hb5)
  have HB5 := hid (HB4.out.trans (hb5.mono HB4.out.size))
  have HG5 := hid (HG4.out.kept hb5)
  have HI5 := hid hC5
  have HOL5 := hid (own_below HOL4.out hb5)
  have e0 := cell_kept hb5 d0
  have e1 := cell_kept hb5 d1
  clear hb5 hC5 ho5 HOL4 HV4 HO4 HL4 HCA4 HB4 HG4 d0 d1
  gi_wp2_with fail
  refine ⟨trivial, (callsIn_wide.2 (same_below HG5.out HCA5.out (by omega))).mono ?_⟩
  rintro e w6 ⟨rfl, hb6⟩
  have HO6 := hid (HO5.out.kept hb6)
  have HOL6 := hid (own_below HOL5.out hb6)
  have HL6 := hid (HL5.out.kept hb6)
  have HI6 := hid (HI5.out.kept hb6)
  have HB6 := hid (HB5.out.trans (hb6.mono HB5.out.size))
  have f0 := cell_kept hb6 e0
  have f1 := cell_kept hb6 e1
  clear hb6 HO5 HOL5 HL5 HI5 HB5 HG5 HCA5 e0 e1
  gi_wp2_with fail
  refine ⟨trivial, (callsIn_wide.2 (same_below HI6.out HL6.out (by omega))).mono ?_⟩
  rintro e w7 ⟨rfl, hb7⟩
  have HO7 := hid (HO6.out.kept hb7)
  have HOL7 := hid (own_below HOL6.out hb7)
  have HB7 := hid (HB6.out.trans (hb7.mono HB6.out.size))
  have g0 := cell_kept hb7 f0
  have g1 := cell_kept hb7 f1
  clear hb7 HO6 HOL6 HL6 HI6 HB6 f0 f1
  gi_upto_region 13 with (refine ⟨trivial, ?_⟩; gi_at_call 17; refine (all_in _ _ _).mono ?_; rintro e w' ⟨rfl, rfl⟩)
  have hbA : Below w7.heap.size w7 ((w7.alloc (.cells #[.pointer (some ⟨p, 0, none⟩)] 24)).alloc (.cells #[.func (.func 37) #[] #[.pointer (some ⟨w7.heap.size, 0, none⟩)]] 40)) := ((Below.refl _ w7).alloc (Nat.le_refl _) _).alloc (by simp) _
  have bA := (Boxed.new w7 24 (.pointer (some ⟨p, 0, none⟩))).alloc (.cells #[.func (.func 37) #[] #[.pointer (some ⟨w7.heap.size, 0, none⟩)]] 40)
  have bF := Boxed.new (w7.alloc (.cells #[.pointer (some ⟨p, 0, none⟩)] 24)) 40 (.func (.func 37) #[] #[.pointer (some ⟨w7.heap.size, 0, none⟩)])
  simp only [World.size_alloc] at bF
  have hszA : ((w7.alloc (.cells #[.pointer (some ⟨p, 0, none⟩)] 24)).alloc (.cells #[.func (.func 37) #[] #[.pointer (some ⟨w7.heap.size, 0, none⟩)]] 40)).heap.size = w7.heap.size + 2 := by simp
  obtain ⟨wa, hwa⟩ : ∃ wa, (w7.alloc (.cells #[.pointer (some ⟨p, 0, none⟩)] 24)).alloc (.cells #[.func (.func 37) #[] #[.pointer (some ⟨w7.heap.size, 0, none⟩)]] 40) = wa := ⟨_, rfl⟩
  rw [hwa] at hbA bA bF hszA ⊢
  clear hwa
  have HOA := hid (HO7.out.kept hbA)
  have HOLA := hid (own_below HOL7.out hbA)
  have HBA := hid (HB7.out.trans (hbA.mono HB7.out.size))
  have g0a := cell_kept hbA g0
  have g1a := cell_kept hbA g1
  have HPA := hid (Array.getElem?_eq_some_iff.1 HO7.out.set.hp).1
  have HQA := hid (fun x (hx : (Value.slice av M.length cv).ownBlock = some x) => (HO7.out.set.own.lt x hx).2)
  have HBXA := hid bA
  have HBXF := hid bF
  clear hbA HO7 HOL7 HB7 g0 g1 bA bF
  gi_wp2_with fail
  refine ⟨trivial, (callsIn_wide.2 (add_any HOA.out.set HF.out (by omega) (rl, rh) hr0 hr2)).mono ?_⟩
  rintro e w8 ⟨rfl, v8, S8, T8⟩
  obtain ⟨hO8, hB8⟩ := HOA.out.turned S8 T8
  have HO8 := hid hO8
  have HB8 := hid ((HBA.out.trans (hB8.mono (by omega))))
  have HOL8 := hid (own_turned HOLA.out T8 (fun g hg => by have h1 := own_ge HOLA.out hg; have h2 := HP1.out; exact ⟨by omega, fun e => by have := HQ1.out g e.symm; omega⟩))
  have hA8 : Boxed w8 w7.heap.size 24 (.pointer (some ⟨p, 0, none⟩)) := (T8.block _ HBXA.out.lt (by have := HPA.out; omega) (fun e => by have := HQA.out _ e.symm; omega)).trans HBXA.out
  have hF8 : Boxed w8 (w7.heap.size + 1) 40 (.func (.func 37) #[] #[.pointer (some ⟨w7.heap.size, 0, none⟩)]) := (T8.block _ HBXF.out.lt (by have := HPA.out; omega) (fun e => by have := HQA.out _ e.symm; omega)).trans HBXF.out
  have HFL := hid (addL_length HF.out (rl, rh))
  have hs8 := T8.size
  have h80 : w8.cell? ⟨w.heap.size, 0, none⟩ = some (.int .u64 rl) := (hB8.cell (p := ⟨w.heap.size, 0, none⟩) (by show w.heap.size < _; omega)).trans g0a
  have h81 : w8.cell? ⟨w.heap.size, 1, none⟩ = some (.int .u64 rh) := (hB8.cell (p := ⟨w.heap.size, 1, none⟩) (by show w.heap.size < _; omega)).trans g1a
  clear S8 T8 hO8 hB8 HOA HOLA HBXA HBXF g0a g1a
  obtain ⟨a8, c8, rfl, V8⟩ := HO8.out.set.view (by have := HFL.out; omega)
  have HV8 := hid V8
  clear V8
  gi_upto_region 14 with fail
  gi_cut [15] from 17 (fun s15 wx => s15 = .pointer (some ⟨w8.heap.size, 0, none⟩) ∧ wx = w8.alloc (.cells #[.int .i64 0] 3))
  case first =>
    gi_wp2_with fail
    gi_meet
    case rel => exact ⟨rfl, rfl⟩
  case rest =>
  obtain ⟨rfl, rfl⟩ := hcut
  have cF := (hF8.alloc (.cells #[.int .i64 0] 3)).cell
  have bN0 := Boxed.new w8 3 (.int .i64 0)
  have bA0 := hA8.alloc (.cells #[.int .i64 0] 3)
  have hB0 : Below w8.heap.size w8 (w8.alloc (.cells #[.int .i64 0] 3)) := below_box _ _
  have hsz : (w8.alloc (.cells #[.int .i64 0] 3)).heap.size = w8.heap.size + 1 := by simp
  obtain ⟨W0, hW0⟩ : ∃ W0, w8.alloc (.cells #[.int .i64 0] 3) = W0 := ⟨_, rfl⟩
  rw [hW0] at cF bN0 bA0 hB0 hsz ⊢
  clear hW0
  have HPL := hid (fun (X : World) (hb : Below w8.heap.size w8 X) => rplus_any (cap := k2) ((own_cells_at HOL8.out).kept hb) HF.out (by omega) (rl, rh) hr0 hr2)
  have HLN := hid (fun (X : World) (hb : Below w8.heap.size w8 X) => len_any (HV8.out.kept hb))
  have hNl := HFL.out
  generalize addL M (rl, rh) = N at *
  gi_wp2_with fail
  refine wpIn_rangeFunc_ownH rfl (by omega) (gf := 37) (lb := #[.pointer (some ⟨w7.heap.size, 0, none⟩)]) rfl trivial (enters_of Try.func37 (by kernel_rfl) rfl)
    (iter_stops 5 (by omega) w7.heap.size p a8 c8 N w8 W0 (by omega) hB0 bA0.cell HV8.out) belowK_t (belowK_b (by omega)) (Below.refl _ _) (fun _ => rfl)
    (fun pre W => Boxed W w8.heap.size 3 (.int .i64 (howMany (pre.length * N.length))) ∧ Below w8.heap.size w8 W)
    (fun _ _ _ => False)
    (OwnFrom.and (Own.from (boxed_own _ _ _) _) (ownFrom_below (Nat.le_refl _) (by omega)))
    (fun _ _ _ _ _ hs _ _ => hs)
    ⟨by simpa [howMany, wrap64] using bN0, hB0⟩
    (fun x a' _ => a' = { tmps := #[.slice a L.length cap, .int .i64 stop, .agg #[.int .u64 rl, .int .u64 rh], undef, undef, .pointer (some ⟨w.heap.size, 0, none⟩), .bool false, .pointer (some ⟨p, 0, none⟩), .slice a2 M.length k2, .slice a2 (allL M stop).length k9, .slice a4 (allL M stop).length k4, .bool true, .slice a5 M.length k5, .bool true, .pointer (some ⟨w7.heap.size + 1, 0, none⟩), .pointer (some ⟨w8.heap.size, 0, none⟩), undef, u17, u18, u19, u20, u21, u22, u23, u24, u25, u26, u27, u28, u29, u30, u31, u32, u33, u34, u35, u36, u37, u38, u39, u40, u41, u42, u43, u44, u45, u46, u47, u48, u49, u50, u51, u52, u53, u54, u55, u56, u57, u58, u59, u60, u61, u62, u63, u64, u65, u66, u67, u68, .func (.func 37) #[] #[.pointer (some ⟨w7.heap.size, 0, none⟩)], .agg #[.int .u64 x.1, .int .u64 x.2], u71, u72, u73, u74, u75, u76, u77, u78, u79, u80, u81, u82, u83, u84, u85, u86, u87, u88, u89], defers := [] })
    (fun _ _ _ _ _ _ hs _ _ => hs)
    ?assign ?body ?done ?stop
  case assign =>
    rintro l pre x W K hi hK
    simp only [encsR]
    gi_wp2
    exact hK _ _ (KeepsFrom.refl _ _) (Below.refl _ _) hi rfl
  case body =>
    rintro l pre x a' W hl ⟨r, hr⟩ ⟨bN, hB⟩ rfl hlt
    have cF1 := cell_kept hB hF8.cell
    have hsW := hB.size
    gi_wp2_with fail
    refine wpIn_rangeFunc_ownN (l₀ := l) (r₀ := r) rfl hr (by omega) (gf := 37) (lb := #[.pointer (some ⟨w7.heap.size, 0, none⟩)]) rfl trivial (enters_of Try.func37 (by kernel_rfl) rfl)
      ((iter_stops 3 (by omega) w7.heap.size p a8 c8 N w8 W (by omega) hB (cell_kept hB hA8.cell) HV8.out).inRound l) belowK_t (belowK_b (by omega)) (Below.refl _ _) (fun _ => rfl)
      (fun pre' W' => Boxed W' w8.heap.size 3 (.int .i64 (howMany (pre.length * N.length + pre'.length))) ∧ (Below w8.heap.size W W' ∧ KeepsFrom W0.heap.size W W'))
      (fun _ _ _ => False)
      (OwnFrom.and (Own.from (boxed_own _ _ _) _) (OwnFrom.and (ownFrom_below hsW (by omega)) (ownFrom_keepsFrom (by omega))))
      (fun _ _ _ _ _ hs _ _ => hs)
      ⟨by simpa using bN, Below.refl _ _, KeepsFrom.refl _ _⟩
      (fun y a'' _ => a'' = { tmps := #[.slice a L.length cap, .int .i64 stop, .agg #[.int .u64 rl, .int .u64 rh], undef, undef, .pointer (some ⟨w.heap.size, 0, none⟩), .bool false, .pointer (some ⟨p, 0, none⟩), .slice a2 M.length k2, .slice a2 (allL M stop).length k9, .slice a4 (allL M stop).length k4, .bool true, .slice a5 M.length k5, .bool true, .pointer (some ⟨w7.heap.size + 1, 0, none⟩), .pointer (some ⟨w8.heap.size, 0, none⟩), undef, u17, u18, u19, u20, u21, u22, u23, u24, u25, u26, u27, u28, u29, u30, u31, u32, u33, u34, u35, u36, u37, u38, u39, u40, u41, u42, u43, u44, u45, u46, u47, u48, u49, u50, u51, u52, u53, u54, u55, u56, u57, u58, u59, u60, u61, u62, u63, u64, u65, u66, u67, u68, .func (.func 37) #[] #[.pointer (some ⟨w7.heap.size, 0, none⟩)], .agg #[.int .u64 x.1, .int .u64 x.2], .func (.func 37) #[] #[.pointer (some ⟨w7.heap.size, 0, none⟩)], .agg #[.int .u64 y.1, .int .u64 y.2], u73, u74, u75, u76, u77, u78, u79, u80, u81, u82, u83, u84, u85, u86, u87, u88, u89], defers := [] })
      (fun _ _ _ _ _ _ hs _ _ => hs)
      ?assign2 ?body2 ?done2 ?stop2
    case assign2 =>
      rintro l2 pre' y W' K hi hK
      simp only [encsR]
      gi_wp2
      exact hK _ _ (KeepsFrom.refl _ _) (Below.refl _ _) hi rfl
    case body2 =>
      rintro l2 pre' y a'' W' _ _ ⟨bN2, hBW, hKF⟩ rfl _
      have cN := bN2.cell
      have fN := bN2.frozen
      gi_wp2
      exact ⟨(KeepsOthers.setCell _ _ _).from _, (Below.refl _ W').setCell (p := ⟨w8.heap.size, 0, none⟩) (Nat.le_refl _) _,
        ⟨by rw [List.length_append, List.length_singleton, ← Nat.add_assoc, ← howMany_succ]; exact bN2.set _, hBW.setCell (p := ⟨w8.heap.size, 0, none⟩) (Nat.le_refl _) _, hKF.trans ((KeepsOthers.setCell _ _ _).from _)⟩⟩
    case done2 =>
      rintro ys' W' rfl ⟨bN2, hBW, hKF⟩
      gi_wp2
      exact ⟨hKF, hBW, by rw [List.length_append, List.length_singleton, Nat.succ_mul]; exact bN2, hB.trans hBW⟩
    case stop2 =>
      rintro c pre' W' _ h
      exact h.elim
  case done =>
    rintro D ys W hD rfl ⟨bN, hB⟩ hK
    have cN := bN.cell
    have h90 := cell_kept hB h80
    have h91 := cell_kept hB h81
    have HP9 := HPL.out W hB
    gi_wp2_with fail
    refine ⟨trivial, (callsIn_wide.2 HP9).mono ?_⟩
    rintro e w9 ⟨v9, rfl, ho9, hb9⟩
    obtain ⟨a9, k9', rfl, _⟩ := own_cells ho9
    have hB9 := hB.trans (hb9.mono hB.size)
    have cN9 := cell_kept hb9 cN
    have hK9 : w9.heap[D]? = some (.deferred (some [])) := (hb9.block D (Array.getElem?_eq_some_iff.1 hK).1).trans hK
    have HLE := HLN.out w9 hB9
    have HFI := hid (HB8.out.trans (hB9.mono (by have := HB8.out.size; omega)))
    have hmu := howMany_mul ys.length
    have hq : (howMany (ys.length * ys.length) == wrap64 ((ys.length : Int) * (ys.length : Int))) = true := by rw [hmu]; simp
    have hq2 : ((ys.length : Int) == (ys.length : Int)) = true := by simp
    have HSZ := hid HB8.out.size
    clear ho9 hb9 hB9 hmu HP9 cN h90 h91
    gi_wp2_with fail
    refine ⟨trivial, (callsIn_wide.2 HLE).mono ?_⟩
    rintro e w10 ⟨rfl, hw10⟩
    subst hw10
    clear HLE
    gi_wp2_with fail
    refine ⟨by simp, .inl ⟨_, _, rfl, run_takeDeferred hK9, ?_⟩⟩
    exact ⟨_, results_tmp rfl _ _ _, by first | rfl | simp, HFI.out.trans (belowK_b (w := w) (Nat.le_refl _) _ D _ _ (by have := HSZ.out; omega) hK9 rfl rfl)⟩
  case stop =>
    rintro D c pre W _ _ h _
    exact h.elim
end Go.Proofs.Ytjbjaklbckhodaa
