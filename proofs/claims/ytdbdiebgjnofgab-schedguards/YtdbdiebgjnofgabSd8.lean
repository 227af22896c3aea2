import Derived.Test.YtdbdiebgjnofgabSd7
namespace Go.Proofs.Ytdbdiebgjnofgab
open Go.RowKit Go.Maps Go.Sort
set_option maxRecDepth 100000

theorem rpleft_any {w : World} {r B : Nat} {ps : List Pk} {a : Option Addr} {c : Nat} (h : RpAt w r B ps a c) : Calls Try.prog 119 #[.pointer (some ⟨r, 0, none⟩)] w fun e w' => e = .returned (.int .i64 ps.length) ∧ Below w.heap.size w w' := by
  have c0 := h.row.cell 0 _ rfl
  clear h
  go_enter Try.func119, Try.ntmps119
  go_wp2
  go_ret
  exact ⟨rfl, Below.refl _ _⟩
def InBlk (a : Option Addr) (k : Nat) : Prop := ∃ o, a = some ⟨k, o, none⟩
/-- What the first of a list says. -/
def rpO : List Pk → Option Pk
  | [] => none
  | p :: _ => if p.len < 0 then none else some p
theorem slAt_tail {w : World} {g o cap : Nat} {p : Pk} {ps : List Pk} (h : SlAt w 3 (.slice (some ⟨g, o, none⟩) (ps.length + 1) cap) (ps.length + 1) (pcells (p :: ps))) (a : Option Addr) (cap' : Nat) (ha : ps ≠ [] → a = some ⟨g, o + 3, none⟩) (ha2 : ∃ o', a = some ⟨g, o', none⟩) : SlAt w 3 (.slice a ps.length cap') ps.length (pcells ps) := by
  obtain ⟨h1, h2, ⟨h3, _⟩ | ⟨g', o', c', h3, h4⟩⟩ := h
  · cases h3
  · cases h3
    rw [pcells_cons] at h1 h4
    refine ⟨fun u hu => h1 u (List.mem_append_right _ hu), pcells_len ps, ?_⟩
    obtain ⟨o', rfl⟩ := ha2
    refine .inr ⟨g, o', cap', rfl, fun j u hj => ?_⟩
    have hne : ps ≠ [] := by rintro rfl; simp [pcells] at hj
    have e := ha hne
    injection e with e
    injection e with _ e2
    rw [e2]
    have := h4 (j + 3) u (by rw [List.getElem?_append_right (by simp)]; simpa using hj)
    rw [show o + 3 + j = o + (j + 3) by omega]
    exact this
set_option maxHeartbeats 2000000 in
theorem rpnext_nil {w : World} {r B : Nat} {a : Option Addr} {c : Nat} (h : RpAt w r B [] a c) (v : Vw) : Calls Try.prog 120 #[.pointer (some ⟨r, 0, none⟩), v.val] w fun e w' => e = .returned (pkv none) ∧ Below w.heap.size w w' := by
  have hl := h.row.lt
  have HB0 := hid (((Below.refl w.heap.size w).alloc (Nat.le_refl _) (.cells v.cells.toArray 28)).alloc (by simp) (.cells #[.int .i64 0, .int .u64 0, .int .i64 0] 32))
  have c0 := cell_kept HB0.out (h.row.cell 0 _ rfl)
  clear h
  go_enter Try.func120, Try.ntmps120
  go_wp2
  refine bodyPost_ret (Row.result2 (c := pk0) (t := 32) (Row.new' _ _ _ _ _ (by simp) rfl) Try.results120 _ rfl _ Try.underlying32 rfl i36) rfl ⟨rfl, HB0.out⟩
theorem Fr.setIn {S : Nat → Prop} {w w' : World} {B : Nat} (h : Fr S w w') (hB : S B) (o : Nat) (v : Value) : Fr S w (w'.setCell ⟨B, o, none⟩ v) :=
  h.trans (T := fun k => k = B) ⟨rfl, rfl, rfl, by simp [World.setCell], fun k _ hk => Below.heap_setCell w' ⟨B, o, none⟩ v k hk⟩ (fun k e => .inl (by rw [e]; exact hB))
set_option maxHeartbeats 4000000 in
theorem rpnext_cons {w : World} {r B : Nat} {p : Pk} {ps : List Pk} {a : Option Addr} {c : Nat} (h : RpAt w r B (p :: ps) a c) (v : Vw) : Calls Try.prog 120 #[.pointer (some ⟨r, 0, none⟩), v.val] w fun e w' => e = .returned (pkv (rpO (p :: ps))) ∧ Fr (fun k => k = r) w w' ∧ ∃ a' c', RpAt w' r B ps a' c' ∧ ∀ k, (Value.slice a' ps.length c').ownBlock = some k → InBlk a k := by
  have hl := h.row.lt
  obtain ⟨h1, h2, ⟨h3, _⟩ | ⟨g, o, cap, h3, h4⟩⟩ := h.at_
  · cases h3
  cases h3
  have hc1 := h.le
  have HB0 := hid (((Below.refl w.heap.size w).alloc (Nat.le_refl _) (.cells v.cells.toArray 28)).alloc (by simp) (.cells #[.int .i64 0, .int .u64 0, .int .i64 0] 32))
  have hgl := World.block_lt_of_cell? w _ (h4 0 _ rfl)
  have H := hid h
  rw [List.length_cons] at hc1
  have hW : ∀ X : Obj, Below w.heap.size w ((w.alloc (.cells v.cells.toArray 28)).alloc X) := fun X => ((Below.refl w.heap.size w).alloc (Nat.le_refl _) _).alloc (by simp) _
  have R := h.row.kept (hW (.cells #[.int .i64 0, .int .u64 0, .int .i64 0] 32)) hl
  have c0 := R.cell 0 _ rfl
  have f0 := R.frozen 0
  have q0 : _ = some (Value.int IntKind.i64 p.path) := cell_kept HB0.out (ad := ⟨g, o, none⟩) (h4 0 _ rfl)
  have q1 := cell_kept HB0.out (h4 1 _ rfl)
  have q2 := cell_kept HB0.out (h4 2 _ rfl)
  rw [List.length_cons] at c0
  have hci : (1 : Int) ≤ (c : Int) := by omega
  have hni : (1 : Int) ≤ ((ps.length + 1 : Nat) : Int) := by omega
  have hnn : ((ps.length + 1 : Nat) : Int) ≤ (c : Int) := by omega
  have HR := hid R
  clear h h1 h2 h4 hW R
  generalize hN : ps.length + 1 = N at *
  have HN := hid hN
  have hz : ((N : Int) == 0) = false := by simp; omega
  clear hN
  have HC := hid hc1
  clear hc1
  go_enter Try.func120, Try.ntmps120
  go_upto_region 1 with fail
  have HP : Hid (Row ((w.alloc (.cells v.cells.toArray 28)).alloc (.cells #[.int .i64 0, .int .u64 0, .int .i64 0] 32)) (w.heap.size + 1) pk0 32) := Row.new' _ _ _ _ _ (by simp) rfl
  obtain ⟨y, hy⟩ : ∃ y, y = w.heap.size + 1 := ⟨_, rfl⟩
  rw [← hy] at HP ⊢
  generalize ((w.alloc (.cells v.cells.toArray 28)).alloc (.cells #[.int .i64 0, .int .u64 0, .int .i64 0] 32)) = W at *
  go_upto_region 4 with fail
  refine wp_world fun W2 HW => ?_
  obtain ⟨z, hz'⟩ : ∃ z, z = W.heap.size := ⟨_, rfl⟩
  have hyl := HP.out.lt
  have HR2 : Hid (Row W2 r [.slice (some ⟨g, o, none⟩) N c] 116) := by show Row _ _ _ _; rw [HW.out, ← HN.out]; exact HR.out.alloc _
  have HP2 : Hid (Row W2 y pk0 32) := by show Row _ _ _ _; rw [HW.out]; exact HP.out.alloc _
  have HZ2 : Hid (Row W2 z p.cells 32) := by show Row _ _ _ _; rw [HW.out, hz']; exact Row.new' _ _ _ _ _ rfl rfl
  have HB2 : Hid (Below w.heap.size w W2) := by show Below _ _ _; rw [HW.out]; exact HB0.out.alloc HB0.out.size _
  rw [← hz']
  have n1 : ¬ r = y := by omega
  have n2 : ¬ y = r := by omega
  have n3 : ¬ r = z := by omega
  have n4 : ¬ z = r := by omega
  have n5 : ¬ y = z := by omega
  have n6 : ¬ z = y := by omega
  have HYS : Hid (w.heap.size ≤ y) := by show _ ≤ _; omega
  clear c0 f0 q0 q1 q2 hyl HW hz' hy HR HP HB0
  have c0 := HR2.out.cell 0 _ rfl
  have f0 := HR2.out.frozen 0
  have y0 := HP2.out.cell 0 _ rfl
  have y1 := HP2.out.cell 1 _ rfl
  have y2 := HP2.out.cell 2 _ rfl
  have e0 := HP2.out.frozen 0
  have e1 := HP2.out.frozen 1
  have e2 := HP2.out.frozen 2
  have z0 := HZ2.out.cell 0 _ rfl
  have z1 := HZ2.out.cell 1 _ rfl
  have z2 := HZ2.out.cell 2 _ rfl
  have HF2 : Hid (Fr (fun k => k = r) w W2) := fr0 HB2.out
  have HE : Hid (∀ (a' : Option Addr) (W4 : World), (ps ≠ [] → a' = some ⟨g, o + 3, none⟩) → (∃ o', a' = some ⟨g, o', none⟩) → Fr (fun k => k = r) w W4 → Row W4 r [.slice a' (N - 1) (c - 1)] 116 → RpAt W4 r B ps a' (c - 1) ∧ ∀ k, (Value.slice a' ps.length (c - 1)).ownBlock = some k → InBlk (some ⟨g, o, none⟩) k) := fun a' W4 h1 h2 h3 h4 => by
    have hn : N - 1 = ps.length := by have := HN.out; omega
    rw [hn] at h4
    have hgr : g ≠ r ∧ B ≤ g := H.out.ne g rfl
    refine ⟨⟨h4, slAt_tail (p := p) (cap := c) (H.out.at_.fr h3 (fun k hk => by cases hk; exact hgr.1)) a' (c - 1) h1 h2, by have := HN.out; have := HC.out; omega, fun k hk => ?_⟩, fun k hk => ?_⟩
    · obtain ⟨o', rfl⟩ := h2
      cases hk
      exact hgr
    · obtain ⟨o', rfl⟩ := h2
      cases hk
      exact ⟨o, rfl⟩
  by_cases hc : c = 1
  · subst hc
    have HPE : Hid (ps = []) := by
      show _ = _
      have := HN.out
      have := HC.out
      exact List.eq_nil_of_length_eq_zero (by omega)
    by_cases hl0 : p.len < 0
    all_goals
      go_wp2
      refine bodyPost_ret (Row.result2 (((((HP2.out.setOther ⟨r, 0, none⟩ n2 _).set 0 _).set 1 _).set 2 _)) Try.results120 _ rfl _ Try.underlying32 rfl i36) rfl ⟨by (show _ = Ending.returned (pkv (if p.len < 0 then none else some p))); first | (rw [if_pos hl0]; rfl) | (rw [if_neg (by omega)]; rfl), ?_, _, _, HE.out (some ⟨g, o, none⟩) _ (fun hne => absurd HPE.out hne) ⟨_, rfl⟩ ?_ ?_⟩
      · exact ((((HF2.out.setIn (B := r) rfl 0 _).setCell' HYS.out _ _).setCell' HYS.out _ _).setCell' HYS.out _ _)
      · exact ((((HF2.out.setIn (B := r) rfl 0 _).setCell' HYS.out _ _).setCell' HYS.out _ _).setCell' HYS.out _ _)
      · exact ((((HR2.out.set 0 _).setOther ⟨y, 0, none⟩ n1 _).setOther ⟨y, 1, none⟩ n1 _).setOther ⟨y, 2, none⟩ n1 _)
  · by_cases hl0 : p.len < 0
    all_goals
      go_wp2
      refine bodyPost_ret (Row.result2 (((((HP2.out.setOther ⟨r, 0, none⟩ n2 _).set 0 _).set 1 _).set 2 _)) Try.results120 _ rfl _ Try.underlying32 rfl i36) rfl ⟨by (show _ = Ending.returned (pkv (if p.len < 0 then none else some p))); first | (rw [if_pos hl0]; rfl) | (rw [if_neg (by omega)]; rfl), ?_, _, _, HE.out (some ⟨g, o + 3, none⟩) _ (fun _ => rfl) ⟨_, rfl⟩ ?_ ?_⟩
      · exact ((((HF2.out.setIn (B := r) rfl 0 _).setCell' HYS.out _ _).setCell' HYS.out _ _).setCell' HYS.out _ _)
      · exact ((((HF2.out.setIn (B := r) rfl 0 _).setCell' HYS.out _ _).setCell' HYS.out _ _).setCell' HYS.out _ _)
      · exact ((((HR2.out.set 0 _).setOther ⟨y, 0, none⟩ n1 _).setOther ⟨y, 1, none⟩ n1 _).setOther ⟨y, 2, none⟩ n1 _)
end Go.Proofs.Ytdbdiebgjnofgab
