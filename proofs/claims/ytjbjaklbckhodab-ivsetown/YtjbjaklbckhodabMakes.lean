import Derived.Test.YtjbjaklbckhodabIsSet
namespace Go.Proofs.Ytjbjaklbckhodab
open Go.RowKit
set_option maxRecDepth 100000

/-- One member of a list is written: some list of the same length. -/
theorem flat_put (Z : List Rg) (i : Nat) (hi : i < Z.length) (z : Rg) : ∃ Z' : List Rg, Z'.length = Z.length ∧ ((flat Z).set (i * 2) (.int .u64 z.1)).set (i * 2 + 1) (.int .u64 z.2) = flat Z' := by
  have hZ : Z = Z.take i ++ [Z[i]] ++ Z.drop (i + 1) := by
    rw [List.append_assoc, List.singleton_append, ← List.drop_eq_getElem_cons hi, List.take_append_drop]
  have hl : (Z.take i).length = i := by rw [List.length_take]; omega
  refine ⟨Z.take i ++ [z] ++ Z.drop (i + 1), ?_, ?_⟩
  · simp; omega
  · have h := flat_set2 (Z.take i) (Z.drop (i + 1)) Z[i] z
    rw [hl, ← hZ] at h
    exact h
theorem SetAt.grown {w w' : World} {p g : Nat} {v : Value} {L : List Rg} (S : SetAt w p v L) (hg : w.grownBy w' (some g)) (h1 : p ≠ g) (h2 : ∀ x, v.ownBlock = some x → x ≠ g) : SetAt w' p v L := by
  refine ⟨by rw [hg.block p (Array.getElem?_eq_some_iff.1 S.hp).1 (by simpa using h1)]; exact S.hp, ?_⟩
  exact own_kept S.own hg (fun x hx e => h2 x hx (by simpa using e.symm))
/-- A member of an own row: its cells, to be read and to be written. -/
theorem own_pair {w : World} {B g c n : Nat} {Z : List Rg} (h : w.ownsRow B 25 2 (.slice (some ⟨g, 0, none⟩) n c) n (flat Z)) (hn : Z.length = n) (i : Nat) (hi : i < Z.length) :
    w.cell? ⟨g, i * 2, none⟩ = some (.int .u64 Z[i].1) ∧ w.cell? ⟨g, i * 2 + 1, none⟩ = some (.int .u64 Z[i].2) := by
  have hf := flat_get Z i hi
  exact ⟨(h.cellAt _ (by omega)).trans hf.1, (h.cellAt _ (by omega)).trans hf.2⟩
theorem own_place {w : World} {B g c n : Nat} {Z : List Rg} (h : w.ownsRow B 25 2 (.slice (some ⟨g, 0, none⟩) n c) n (flat Z)) (hn : Z.length = n) (i : Nat) (hi : i < Z.length) (z : Int) :
    ∃ y0 y1, w.cell? ⟨g, i * 2, none⟩ = some y0 ∧ (w.setCell ⟨g, i * 2, none⟩ (.int .u64 z)).cell? ⟨g, i * 2 + 1, none⟩ = some y1 ∧ w.frozen? ⟨g, i * 2, none⟩ = false ∧ (w.setCell ⟨g, i * 2, none⟩ (.int .u64 z)).frozen? ⟨g, i * 2 + 1, none⟩ = false := by
  obtain ⟨h1, _⟩ := h.stored (i * 2) (.int .u64 z)
  have hl := length_flat Z
  exact ⟨_, _, (h.cellAt _ (by omega)).trans (List.getElem?_eq_getElem (by omega)), (h1.cellAt _ (by omega)).trans (List.getElem?_eq_getElem (by simp; omega)), h.frozenAt _, h1.frozenAt _⟩
theorem own_put {w : World} {B g c n : Nat} {Z : List Rg} (h : w.ownsRow B 25 2 (.slice (some ⟨g, 0, none⟩) n c) n (flat Z)) (hn : Z.length = n) (i : Nat) (hi : i < Z.length) (z : Rg) :
    ∃ Z' : List Rg, Z'.length = n ∧ (put2 w g (i * 2) z.1 z.2).ownsRow B 25 2 (.slice (some ⟨g, 0, none⟩) n c) n (flat Z') ∧ w.grownBy (put2 w g (i * 2) z.1 z.2) (some g) := by
  obtain ⟨h1, g1⟩ := h.stored (i * 2) (.int .u64 z.1)
  obtain ⟨h2, g2⟩ := h1.stored (i * 2 + 1) (.int .u64 z.2)
  obtain ⟨Z', hl, hz⟩ := flat_put Z i hi z
  rw [hz] at h2
  exact ⟨Z', by omega, h2, g1.trans g2⟩

set_option maxHeartbeats 4000000 in
theorem makes_any {w : World} {a : Option Addr} {cap : Nat} {L : List Rg} (C : Cells w a L) (hf : (L.length + 4) * 16 ≤ 140737488355328) (hw : ∀ r ∈ L, 0 ≤ r.1 ∧ r.2 ≤ 18446744073709551615) :
    Calls Try.prog 3 #[.slice a L.length cap] w fun e w' => e = .returned (.bool true) ∧ Below w.heap.size w w' := by
  obtain ⟨i0, hi, hz0, hz1, hz2⟩ := info_parts info29'
  have HC := hid C
  have HW := hid hw
  clear C hw
  go_enter Try.func3, Try.ntmps3
  go_upto_region 3 with (at_builtin; refine wpAppendR rfl _ _ Try.underlying22 Try.underlying22 rfl (base := w.heap.size) (A := []) (B := L) rfl (World.ownsRow_nil _ _ _ _) rfl HC.out (by simp; omega) (Nat.le_refl _) ?_; intro v2 w2 ho2 hg2 _; have HO2 := hid ho2; have HG2 := hid hg2; clear ho2 hg2)
  have hg2 : w.grownBy w2 none := HG2.out
  have HB2 := hid (grown_below hg2)
  have HO : Hid (w2.ownsRow w.heap.size 25 2 v2 L.length (flat L)) := HO2.out
  clear hg2 HG2 HO2
  go_upto_region 4 with (first | (at_builtin; refine wpList_append_own_at _ rfl _ _ 22 rfl w.heap.size 25 i0 (.agg #[.int .u64 0, .int .u64 0]) 2 16 Try.underlying22 hi hz0 hz1 hz2 rfl (by decide) v2 L.length (flat L) rfl (World.ownsRow.alloc HO.out _) ⟨w2.heap.size, 0, none⟩ 1 1 [.int .u64 7, .int .u64 3] rfl rfl (box_range w2 25 _) (pair_one 7 3) (by unfold maxLen; omega) (by omega) (by have := HB2.out.size; simp; omega) ?_; intro v3 w3 ho3 hg3 _ _; have HO3 := hid ho3; have HG3 := hid hg3; clear ho3 hg3) | fail)
  have ho3 : w3.ownsRow w.heap.size 25 2 v3 (L ++ [((7 : Int), (3 : Int))]).length (flat (L ++ [(7, 3)])) := by
    rw [List.length_append, flat_append, flat_cons]
    exact HO3.out
  have HB3 : Hid (Below w.heap.size w w3) := (HB2.out.trans ((below_box w2 _).mono HB2.out.size)).grown HG3.out (by have := HB2.out.size; simp; omega) (fun y e => own_ge HO.out e)
  have hle : (L ++ [((7 : Int), (3 : Int))]).length = L.length + 1 := by simp
  have ho3' := ho3
  rw [hle] at ho3
  obtain ⟨g3, k3, rfl⟩ := ownsRow_succ ho3
  rw [← hle] at ho3'
  have hC3 := cells_take (own_cells_at ho3') L.length
  rw [List.take_left] at hC3
  have hk3 : L.length + 1 ≤ k3 := by rw [← hle]; exact own_room ho3'
  have hg3 : w.heap.size ≤ g3 ∧ g3 < w3.heap.size := ho3.lt g3 rfl
  have hpr := own_pair ho3 hle L.length (by omega)
  rw [List.getElem_concat_length rfl] at hpr
  obtain ⟨n0, n1⟩ := hpr
  have HC3 := hid hC3
  have HROW := hid ho3
  have HN0 := hid n0
  have HN1 := hid n1
  clear ho3 ho3' hC3 HO3 HG3 HO HB2 n0 n1 hle
  have hki : (L.length : Int) ≤ (k3 : Int) := by omega
  go_wp2_with fail
  refine (new_any sort_any (cap := k3) HC3.out (by omega) HW.out).mono ?_
  rintro e w4 ⟨p, rfl, v, L', hP, hO, hb4⟩
  obtain ⟨hF, hL⟩ := addAll_fit L' (fun r hr => HW.out r (hP.mem_iff.1 hr)) L'.length (Nat.le_refl _)
  rw [List.take_length, hP.length_eq] at hL
  rw [List.take_length] at hF
  have HEQ := hid (fun P => new_of (P := P) HW.out hP)
  generalize addAll L' = M at *
  have HO4 := hid hO
  have HF := hid hF
  have HC4 := hid (HC3.out.kept hb4)
  have HB4 := hid (HB3.out.trans (hb4.mono HB3.out.size))
  have HCL := hid (HC.out.kept HB4.out)
  have HR4 := hid (own_below HROW.out hb4)
  have n0 := cell_kept hb4 HN0.out
  have n1 := cell_kept hb4 HN1.out
  have hg4 : g3 < w4.heap.size := Nat.lt_of_lt_of_le hg3.2 hb4.size
  have hs3 := hg3.2
  clear hP hO hb4 hF HC3 HB3 HROW HN0 HN1
  go_wp2_with fail
  refine (same_below HC4.out HCL.out (by omega)).mono ?_
  rintro e w5 ⟨rfl, hb5⟩
  have HO5 := hid (HO4.out.kept hb5)
  have HB5 := hid (HB4.out.trans (hb5.mono HB4.out.size))
  have HR5 := hid (own_below HR4.out hb5)
  have m0 := cell_kept hb5 n0
  have m1 := cell_kept hb5 n1
  clear hb5 HO4 HC4 HB4 HCL HR4 n0 n1
  have hi1 : (0 : Int) ≤ (L.length : Int) := by omega
  have hi2 : (L.length : Int) < ((L.length + 1 : Nat) : Int) := by omega
  go_wp2_with fail
  clear m0 m1 hi1 hi2
  go_loopw [40] (fun i wr => ∃ (k : Nat) (Z : List Rg), k ≤ L.length + 1 ∧ i = .int .i64 k ∧ Z.length = L.length + 1 ∧ wr.ownsRow w.heap.size 25 2 (.slice (some ⟨g3, 0, none⟩) (L.length + 1) k3) (L.length + 1) (flat Z) ∧ w5.grownBy wr (some g3)) (fun i _ => L.length + 1 - (intOf i).toNat)
  case atStart => exact ⟨0, L ++ [(7, 3)], Nat.zero_le _, rfl, by simp, HR5.out, ⟨rfl, rfl, rfl, Nat.le_refl _, fun _ _ _ => rfl⟩⟩
  case round =>
    obtain ⟨k, Z, hk, rfl, hZ, hown, hgr⟩ := hrel
    have HOWN := hid hown
    have HGR := hid hgr
    clear hown hgr
    by_cases hlt : k < L.length + 1
    · have hkl : (k : Int) < (L.length : Int) + 1 := by omega
      obtain ⟨y0, y1, p0, p1, p2, p3⟩ := own_place HOWN.out hZ k (by omega) 1
      have HPUT := hid (own_put HOWN.out hZ k (by omega) (1, 99))
      go_wp2_with fail
      go_roundw
      case rel =>
        obtain ⟨Z', hl', h1, h2⟩ := HPUT.out
        exact ⟨k + 1, Z', by omega, by go_num, hl', h1, HGR.out.trans h2⟩
      case measure => simp [intOf]; omega
    · have hkl : ¬ (k : Int) < (L.length : Int) + 1 := by omega
      have hpg : p ≠ g3 := by have := HO5.out.at_; omega
      have hS := HO5.out.set.grown HGR.out hpg (fun x hx => by have := HO5.out.row x hx; omega)
      obtain ⟨av, cv, rfl, hV⟩ := hS.view (by omega)
      have hB6 := HB5.out.grown HGR.out HB5.out.size (fun y e => by cases e; exact hg3.1)
      have hOF := of_any sorted_said (cap := cap) (HC.out.kept hB6) (by omega) HW.out
      have HV := hid hV
      have HB6 := hid hB6
      clear hS hV hB6 HOWN HGR HB5 HO5 HR5
      go_wp2_with fail
      refine hOF.mono ?_
      rintro e w7 ⟨v7, P, rfl, hP, hp, ho7, hb7⟩
      rw [HEQ.out P hP hp] at ho7
      obtain ⟨a7, k7, rfl, hC7⟩ := own_cells ho7
      have HV7 := hid (HV.out.kept hb7)
      have HC7 := hid hC7
      have HB7 := hid (HB6.out.trans (hb7.mono HB6.out.size))
      clear hP hp ho7 hC7 hb7 HV HB6 HEQ hOF
      go_wp2_with fail
      refine (is_any HV7.out HF.out HC7.out (by omega)).mono ?_
      rintro e w8 ⟨rfl, hb8⟩
      have HB8 := hid (HB7.out.trans (hb8.mono HB7.out.size))
      clear hb8
      go_wp2_with fail
      go_ret
      exact ⟨rfl, HB8.out⟩
end Go.Proofs.Ytjbjaklbckhodab
