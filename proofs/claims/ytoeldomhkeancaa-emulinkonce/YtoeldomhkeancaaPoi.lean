import Derived.Test.YtoeldomhkeancaaSki
namespace Go.Proofs.Ytoeldomhkeancaa
open Go.RowKit Go.Maps
set_option maxRecDepth 100000

def zIi : It Value := ⟨0, 0, .int .i64 0⟩
theorem step_allocI_i {o : Oper} {a : Act} {w : World} {K : Act → World → Prop} {Q : Exit → Act → World → Prop} {n : Nat} (hn : w.heap.size = n) (ho : o.op = .alloc 87) (h : K (a.put o.dst (pt n 0)) (w.alloc (.cells (icells zIi).toArray 87))) : Oper.wp Try.prog o a w K Q := by
  have e : (execOp a.eval o).run Try.prog w = .ok (.value (pt w.heap.size 0)) (w.alloc (.cells (icells zIi).toArray 87)) := by
    generalize a.eval = r at *
    simp only [execOp, ho]
    kernel_rfl
  unfold Oper.wp
  rw [e, Oper.upon_value, hn]
  exact h
theorem HMi.cut {w : World} {p o g m cap : Nat} {c : List Value} {L : List (It Value)} (h : HMi w p o c (.slice (some ⟨g, 0, none⟩) (m + 1) cap) L) (hl : L.length = m + 1) :
    HMi (w.setCell ⟨p, o, none⟩ (.slice (some ⟨g, 0, none⟩) m cap)) p o (c.set o (.slice (some ⟨g, 0, none⟩) m cap)) (.slice (some ⟨g, 0, none⟩) m cap) L.dropLast := by
  have hol : o < c.length := (List.getElem?_eq_some_iff.1 h.get).1
  have hap := h.ap
  have hF : Fr (fun j => j = p) w (w.setCell ⟨p, o, none⟩ (.slice (some ⟨g, 0, none⟩) m cap)) := (Fr.refl _ w).setCell p o _ (.inl rfl)
  refine ⟨h.row.set o _, by rw [List.getElem?_set_self hol], Fr.own hF ?_ (fun x e e' => hap (by rw [← e', ← e]; rfl)), fun x hx => h.one x (List.dropLast_subset _ hx)⟩
  obtain ⟨h1, ⟨e, _⟩ | ⟨g', cap', cur, e, hb, hg, hnc, hcm, hcs, htk⟩⟩ := h.own
  · cases e
  · rw [hl] at e htk hnc
    cases e
    have hd : L.dropLast.length = m := by simp [hl]
    refine ⟨by rw [flatI_len], .inr ⟨g, cap, cur, by rw [hd], hb, hg, by omega, hcm, hcs, ?_⟩⟩
    rw [hd, List.dropLast_eq_take, hl, show m + 1 - 1 = m by omega, ← flatI_take, ← htk, List.take_take, Nat.min_eq_left (by omega)]
def PoEndi (w : World) (p o : Nat) (c : List Value) (v : Value) (L : List (It Value)) (a : It Value) (w' : World) : Prop :=
  ∃ v' L', HMi w' p o (c.set o v') v' L' ∧ (a :: L').Perm L ∧ Hp L'.length (kat L') ∧ Fr (fun j => j = p ∨ v.ownBlock = some j) w w' ∧ v'.ownBlock = v.ownBlock
theorem PoEndi.far {w w7 w8 : World} {p o b2 : Nat} {c : List Value} {v : Value} {L : List (It Value)} {a : It Value} (h : PoEndi w p o c v L a w7) (hf : Fr (fun j => j = b2) w7 w8) (hb : w.heap.size ≤ b2) (hp : p ≠ b2) (hv : ∀ g, v.ownBlock = some g → g ≠ b2) : PoEndi w p o c v L a w8 := by
  obtain ⟨v', L', h1, h2, h3, h4, h5⟩ := h
  exact ⟨v', L', h1.kept hf hp (fun g e => hv g (by rw [← h5]; exact e)), h2, h3, h4.trans hf (fun x e => .inr (by omega)), h5⟩
/-- What a pop does ahead of its sink. -/
theorem pop_memi {w w3 : World} {p o g m cap : Nat} {c : List Value} {L : List (It Value)} (h : HMi w p o c (.slice (some ⟨g, 0, none⟩) (m + 1) cap) L) (hl : L.length = m + 1) (hh : Hp L.length (kat L)) {a z : It Value} (ha : L[0]? = some a) (hz : L[m]? = some z) (hb : Below w.heap.size w w3) :
    HMi (w3.setCells g (0 * 3) (icells z)) p o c (.slice (some ⟨g, 0, none⟩) (m + 1) cap) (L.set 0 z) ∧
    HMi ((w3.setCells g (0 * 3) (icells z)).setCells g (m * 3) (icells zIi)) p o c (.slice (some ⟨g, 0, none⟩) (m + 1) cap) ((L.set 0 z).set m zIi) ∧
    ∀ w6, w6 = ((w3.setCells g (0 * 3) (icells z)).setCells g (m * 3) (icells zIi)).setCell ⟨p, o, none⟩ (.slice (some ⟨g, 0, none⟩) m cap) →
      HMi w6 p o (c.set o (.slice (some ⟨g, 0, none⟩) m cap)) (.slice (some ⟨g, 0, none⟩) m cap) ((L.set 0 z).dropLast) ∧ DnI ((L.set 0 z).dropLast).length (kat ((L.set 0 z).dropLast)) 0 ∧ Fr (fun j => j = p ∨ g = j) w3 w6 ∧
      ∀ w7, SkEndi w6 p o (c.set o (.slice (some ⟨g, 0, none⟩) m cap)) (.slice (some ⟨g, 0, none⟩) m cap) ((L.set 0 z).dropLast) w7 → PoEndi w p o c (.slice (some ⟨g, 0, none⟩) (m + 1) cap) L a w7 := by
  have h3 := h.below hb
  have oz := h.one z (List.mem_of_getElem? hz)
  have s1 := h3.setI (k := 0) (x := z) rfl (by omega) oz
  have s2 := s1.1.setI (k := m) (x := zIi) rfl (by simp [hl]) rfl
  refine ⟨s1.1, s2.1, fun w6 hw6 => ?_⟩
  have s3 := s2.1.cut (by simp [hl])
  have ed : (((L.set 0 z).set m zIi)).dropLast = (L.set 0 z).dropLast := by
    rw [List.dropLast_eq_take, List.dropLast_eq_take, List.length_set, List.length_set, hl, show m + 1 - 1 = m by omega, List.take_set_of_le (by omega)]
  rw [ed, ← hw6] at s3
  have hf : Fr (fun j => j = p ∨ g = j) w3 w6 := by
    rw [hw6]
    exact ((s1.2.trans s2.2 (fun _ e => .inl e)).wider (fun j e => .inr (by simpa [Value.ownBlock] using e))).setCell p o _ (.inl (.inl rfl))
  refine ⟨s3, ?_, hf, ?_⟩
  · have := pop_dn hh z
    simpa using this
  · rintro w7 ⟨L', hM, hP, hH, hF⟩
    refine ⟨_, L', hM, (hP.cons a).trans (pop_perm ha (by rw [hl]; simpa using hz)), hH, ?_, rfl⟩
    refine ((Fr.of_below (S := fun j => j = p ∨ (Value.slice (some ⟨g, 0, none⟩) (m + 1) cap).ownBlock = some j) hb (Nat.le_refl _)).trans hf (fun x e => .inl (e.imp id (fun e => by rw [e]; rfl)))).trans hF (fun x e => .inl (.inr e))
set_option maxHeartbeats 4000000 in
theorem pop_i {w : World} {p o : Nat} {c : List Value} {v : Value} {L : List (It Value)} (h : HMi w p o c v L) (hh : Hp L.length (kat L)) {a : It Value} (ha : L[0]? = some a) (hl : L.length ≤ 2932031007402) :
    Calls Try.prog 42 #[pt p o] w fun e w' => e = .returned (.agg (icells a).toArray) ∧ PoEndi w p o c v L a w' := by
  obtain ⟨m, hm⟩ : ∃ m, L.length = m + 1 := ⟨L.length - 1, by have := (List.getElem?_eq_some_iff.1 ha).1; omega⟩
  obtain ⟨z, hz⟩ : ∃ z, L[m]? = some z := ⟨_, List.getElem?_eq_getElem (by omega)⟩
  obtain ⟨g, cap, rfl, hgp, hnc, hcm, hgl, -⟩ := h.shape.resolve_left (fun e => by rw [e.2] at ha; simp at ha)
  rw [hm] at h hnc
  have hmi : (m : Int) ≤ 2932031007402 := by omega
  have hb1 := below_new w (.cells #[.int .u64 0, .int .u64 0, .int .i64 0] 87)
  have R2 := Row.new w (icells zIi) 87
  have oa := h.one a (List.mem_of_getElem? ha)
  have oz := h.one z (List.mem_of_getElem? hz)
  rw [hm]
  go_enter Try.func42, Try.ntmps42
  go_upto_region 1 with fail
  change Row (w.alloc (.cells #[.int .u64 0, .int .u64 0, .int .i64 0] 87)) w.heap.size (icells zIi) 87 at R2
  revert hb1 R2
  generalize w.alloc (.cells #[.int .u64 0, .int .u64 0, .int .i64 0] 87) = w1
  intro hb1 R2
  obtain ⟨b2, hb2⟩ : ∃ b2, w.heap.size = b2 := ⟨_, rfl⟩
  rw [hb2] at R2 ⊢
  have hgb : g < b2 := by omega
  have h1 := h.below hb1
  have HCC : Hid (∀ w', Below w1.heap.size w1 w' → w'.cell? ⟨p, o, none⟩ = some (.slice (some ⟨g, 0, none⟩) (m + 1) cap)) := fun w' hb => (h1.below hb).cell
  have HLA : Hid (∀ w', Below w1.heap.size w1 w' → w'.cell? ⟨g, 0, none⟩ = some (.int .u64 a.at_) ∧ w'.cell? ⟨g, 1, none⟩ = some (.int .u64 a.num) ∧ w'.cell? ⟨g, 2, none⟩ = some a.what) := fun w' hb => by
    have := (h1.below hb).cells3 rfl ha
    simpa using this
  have HLZ : Hid (∀ w', Below w1.heap.size w1 w' → w'.cell? ⟨g, m * 3, none⟩ = some (.int .u64 z.at_) ∧ w'.cell? ⟨g, m * 3 + 1, none⟩ = some (.int .u64 z.num) ∧ w'.cell? ⟨g, m * 3 + 2, none⟩ = some z.what) := fun w' hb => (h1.below hb).cells3 rfl hz
  have H := hid h
  have HH := hid hh
  have HA := hid ha
  have HZ := hid hz
  have HM := hid hm
  have HB1 := hid hb1
  have HR2 := hid R2
  have hm1 : ((m : Int) + 1) - 1 = (m : Int) := by omega
  have hm2 : (m : Int) < (m : Int) + 1 := by omega
  have hm0 : (0 : Int) < (m : Int) + 1 := by omega
  have hm3 : (0 : Int) ≤ (m : Int) := by omega
  have hm4 : (m : Int) ≤ (cap : Int) := by omega
  have hgs := hb1.size
  rw [hb2] at hgs
  clear h h1 hh ha hz hm hb1 R2 hgl hnc hl
  refine wp_region_some (fun w' => Below w1.heap.size w1 w') [] (by kernel_rfl) ?_
  have hHeld := (show (fun w' => Below w1.heap.size w1 w') w1.drew from below_drewN (Below.refl _ _) 1)
  refine wpAnyG_take' (i := 0) (oi := { dst := some 5, op := Go.Op.move (Go.Operand.tmp 0), type := 90, pos := "heap.go:34", after := #[], guard := none }) (v := ?v1_0) rfl (by kernel_rfl) (by kernel_rfl) (by kernel_rfl) (fun _ _ _ h => h) (Or.inl ⟨by kernel_rfl, ?h1_0⟩) ?r1_0
  case h1_0 => (intro wt hSw; clear hSw; go_simp; try with_reducible rfl)
  simp only [Act.put, List.setIfInBounds_toArray, List.set_cons_zero, List.set_cons_succ]
  refine wpAnyG_take' (i := 1) (oi := { dst := some 6, op := Go.Op.nilCheck (Go.Operand.tmp 5), type := 0, pos := "heap.go:34", after := #[{ on := 0, ground := Go.Ground.data }], guard := none }) (v := ?v1_1) rfl (by kernel_rfl) (by kernel_rfl) (by kernel_rfl) (fun _ _ _ h => h) (Or.inl ⟨by kernel_rfl, ?h1_1⟩) ?r1_1
  case h1_1 => (intro wt hSw; clear hSw; go_simp; try with_reducible rfl)
  simp only [Act.put, List.setIfInBounds_toArray, List.set_cons_zero, List.set_cons_succ]
  refine wpAnyG_take' (i := 2) (oi := { dst := some 7, op := Go.Op.fieldAddr 33 (Go.Operand.tmp 6) 0, type := 0, pos := "heap.go:34", after := #[{ on := 1, ground := Go.Ground.data }], guard := none }) (v := ?v1_2) rfl (by kernel_rfl) (by kernel_rfl) (by kernel_rfl) (fun _ _ _ h => h) (Or.inl ⟨by kernel_rfl, ?h1_2⟩) ?r1_2
  case h1_2 => (intro wt hSw; clear hSw; go_simp; try with_reducible rfl)
  simp only [Act.put, List.setIfInBounds_toArray, List.set_cons_zero, List.set_cons_succ]
  refine wpAnyG_take (i := 3) (oi := { dst := some 8, op := Go.Op.load 31 (Go.Operand.tmp 7), type := 31, pos := "heap.go:34", after := #[{ on := 2, ground := Go.Ground.data }], guard := none }) (v := ?v1_3) (by kernel_rfl) rfl (by kernel_rfl) (by kernel_rfl) (by kernel_rfl) (by kernel_rfl) (fun _ _ _ h => h) (Or.inl ⟨by kernel_rfl, ?h1_3⟩) (by assumption) ?r1_3
  case h1_3 => (intro wt hSw; (try dsimp only at hSw); have cc := HCC.out _ hSw; go_simp; try rfl)
  simp only [Act.put, List.setIfInBounds_toArray, List.set_cons_zero, List.set_cons_succ]
  refine wpAnyG_take' (i := 4) (oi := { dst := some 9, op := Go.Op.indexAddr 31 (Go.Operand.tmp 8) (Go.Operand.const (Go.Value.int Go.IntKind.i64 0)), type := 0, pos := "heap.go:34", after := #[{ on := 3, ground := Go.Ground.data }], guard := none }) (v := .pointer (some ⟨g, 0, none⟩)) rfl (by kernel_rfl) (by kernel_rfl) (by kernel_rfl) (fun _ _ _ h => h) (Or.inl ⟨by kernel_rfl, ?h1_4⟩) ?r1_4
  case h1_4 => (intro wt hSw; clear hSw; go_simp; try with_reducible rfl)
  simp only [Act.put, List.setIfInBounds_toArray, List.set_cons_zero, List.set_cons_succ]
  refine wpAnyG_take (i := 5) (oi := { dst := some 10, op := Go.Op.load 87 (Go.Operand.tmp 9), type := 87, pos := "heap.go:34", after := #[{ on := 4, ground := Go.Ground.data }], guard := none }) (v := .agg (icells a).toArray) (by kernel_rfl) rfl (by kernel_rfl) (by kernel_rfl) (by kernel_rfl) (by kernel_rfl) (fun _ _ _ h => h) (Or.inl ⟨by kernel_rfl, ?h1_5⟩) (by assumption) ?r1_5
  case h1_5 => (intro wt hSw; (try dsimp only at hSw); obtain ⟨l0, l1, l2⟩ := HLA.out _ hSw; go_simp; try rfl)
  simp only [Act.put, List.setIfInBounds_toArray, List.set_cons_zero, List.set_cons_succ]
  refine wpAnyG_take' (i := 6) (oi := { dst := some 11, op := Go.Op.move (Go.Operand.tmp 0), type := 90, pos := "heap.go:34", after := #[], guard := none }) (v := ?v1_6) rfl (by kernel_rfl) (by kernel_rfl) (by kernel_rfl) (fun _ _ _ h => h) (Or.inl ⟨by kernel_rfl, ?h1_6⟩) ?r1_6
  case h1_6 => (intro wt hSw; clear hSw; go_simp; try with_reducible rfl)
  simp only [Act.put, List.setIfInBounds_toArray, List.set_cons_zero, List.set_cons_succ]
  refine wpAnyG_take' (i := 7) (oi := { dst := some 12, op := Go.Op.nilCheck (Go.Operand.tmp 11), type := 0, pos := "heap.go:34", after := #[{ on := 6, ground := Go.Ground.data }], guard := none }) (v := ?v1_7) rfl (by kernel_rfl) (by kernel_rfl) (by kernel_rfl) (fun _ _ _ h => h) (Or.inl ⟨by kernel_rfl, ?h1_7⟩) ?r1_7
  case h1_7 => (intro wt hSw; clear hSw; go_simp; try with_reducible rfl)
  simp only [Act.put, List.setIfInBounds_toArray, List.set_cons_zero, List.set_cons_succ]
  refine wpAnyG_take' (i := 8) (oi := { dst := some 13, op := Go.Op.fieldAddr 33 (Go.Operand.tmp 12) 0, type := 0, pos := "heap.go:34", after := #[{ on := 7, ground := Go.Ground.data }], guard := none }) (v := ?v1_8) rfl (by kernel_rfl) (by kernel_rfl) (by kernel_rfl) (fun _ _ _ h => h) (Or.inl ⟨by kernel_rfl, ?h1_8⟩) ?r1_8
  case h1_8 => (intro wt hSw; clear hSw; go_simp; try with_reducible rfl)
  simp only [Act.put, List.setIfInBounds_toArray, List.set_cons_zero, List.set_cons_succ]
  refine wpAnyG_take (i := 9) (oi := { dst := some 14, op := Go.Op.load 31 (Go.Operand.tmp 13), type := 31, pos := "heap.go:34", after := #[{ on := 8, ground := Go.Ground.data }], guard := none }) (v := ?v1_9) (by kernel_rfl) rfl (by kernel_rfl) (by kernel_rfl) (by kernel_rfl) (by kernel_rfl) (fun _ _ _ h => h) (Or.inl ⟨by kernel_rfl, ?h1_9⟩) (by assumption) ?r1_9
  case h1_9 => (intro wt hSw; (try dsimp only at hSw); have cc := HCC.out _ hSw; go_simp; try rfl)
  simp only [Act.put, List.setIfInBounds_toArray, List.set_cons_zero, List.set_cons_succ]
  refine wpAnyG_take' (i := 10) (oi := { dst := some 15, op := Go.Op.call { callee := Go.Callee.builtin Go.Builtin.len, args := #[Go.Operand.tmp 14], argTypes := #[31] }, type := 3, pos := "heap.go:34", after := #[{ on := 9, ground := Go.Ground.data }], guard := none }) (v := ?v1_10) rfl (by kernel_rfl) (by kernel_rfl) (by kernel_rfl) (fun _ _ _ h => h) (Or.inl ⟨by kernel_rfl, ?h1_10⟩) ?r1_10
  case h1_10 => (intro wt hSw; clear hSw; go_simp; try with_reducible rfl)
  simp only [Act.put, List.setIfInBounds_toArray, List.set_cons_zero, List.set_cons_succ]
  refine wpAnyG_take' (i := 11) (oi := { dst := some 16, op := Go.Op.binOp Go.BinOp.sub 3 (Go.Operand.tmp 15) (Go.Operand.const (Go.Value.int Go.IntKind.i64 1)) 3, type := 3, pos := "heap.go:34", after := #[{ on := 10, ground := Go.Ground.data }, { on := 13, ground := Go.Ground.gcOnly Go.Departure.lateStores }], guard := none }) (v := .int .i64 (m : Int)) rfl (by kernel_rfl) (by kernel_rfl) (by kernel_rfl) (fun _ _ _ h => h) (Or.inl ⟨by kernel_rfl, ?h1_11⟩) ?r1_11
  case h1_11 => (intro wt hSw; clear hSw; go_simp; rw [IntKind.wrap_i64]; omega)
  simp only [Act.put, List.setIfInBounds_toArray, List.set_cons_zero, List.set_cons_succ]
  refine wpAnyG_one (i := 12) (o := { dst := some 3, op := Go.Op.alloc 87, type := 0, pos := "heap.go:34", after := #[], guard := none }) rfl (by kernel_rfl) (by kernel_rfl) ?_
  refine step_allocI_i (n := w1.heap.size) rfl rfl ?_
  have hHeld2 := (show (fun w' => Below w1.heap.size w1 w') (w1.drew.alloc (.cells (icells zIi).toArray 87)) from Below.alloc (below_drewN (Below.refl _ _) 1) (Nat.le_refl _) _)
  refine ⟨fun _ _ => hHeld2, ?_⟩
  simp only [Act.put, List.setIfInBounds_toArray, List.set_cons_zero, List.set_cons_succ]
  refine wpAnyG_one (i := 13) (o := { dst := none, op := Go.Op.store 87 (Go.Operand.tmp 3) (Go.Operand.tmp 10), type := 0, pos := "heap.go:34", after := #[{ on := 12, ground := Go.Ground.data }, { on := 5, ground := Go.Ground.data }, { on := 0, ground := Go.Ground.phase }, { on := 1, ground := Go.Ground.phase }, { on := 2, ground := Go.Ground.phase }, { on := 3, ground := Go.Ground.phase }, { on := 4, ground := Go.Ground.phase }, { on := 5, ground := Go.Ground.phase }, { on := 6, ground := Go.Ground.textOnly Go.Departure.lateStores }, { on := 7, ground := Go.Ground.textOnly Go.Departure.lateStores }, { on := 8, ground := Go.Ground.textOnly Go.Departure.lateStores }, { on := 9, ground := Go.Ground.textOnly Go.Departure.lateStores }, { on := 10, ground := Go.Ground.textOnly Go.Departure.lateStoresUnsure }, { on := 11, ground := Go.Ground.textOnly Go.Departure.lateStores }, { on := 12, ground := Go.Ground.phase }], guard := none }) rfl (by kernel_rfl) (by kernel_rfl) ?_
  have hRn : Row (w1.drew.alloc (.cells (icells zIi).toArray 87)) w1.heap.size (icells zIi) 87 := Row.new w1.drew (icells zIi) 87
  have hHeld3 := (show (fun w' => Below w1.heap.size w1 w') ((w1.drew.alloc (.cells (icells zIi).toArray 87)).setCells w1.heap.size 0 (icells a)) from Below.setCells (Nat.le_refl _) _ _ hHeld2)
  have hR3 : Row ((w1.drew.alloc (.cells (icells zIi).toArray 87)).setCells w1.heap.size 0 (icells a)) w1.heap.size (icells a) 87 := by simpa [icells, zIi] using hRn.setCells (icells a) 0 (by simp [icells])
  refine step_storeI_i (it := a) (b := w1.heap.size) (j := 0) rfl rfl rfl (hRn.there 0 3 (by simp [icells])) oa ?_
  refine ⟨fun _ _ => hHeld3, ?_⟩
  simp only [Act.put]
  refine wpAnyG_take' (i := 14) (oi := { dst := some 4, op := Go.Op.assign (Go.Operand.tmp 16), type := 3, pos := "heap.go:34", after := #[{ on := 11, ground := Go.Ground.data }, { on := 13, ground := Go.Ground.chain }, { on := 0, ground := Go.Ground.phase }, { on := 1, ground := Go.Ground.phase }, { on := 2, ground := Go.Ground.phase }, { on := 3, ground := Go.Ground.phase }, { on := 4, ground := Go.Ground.phase }, { on := 5, ground := Go.Ground.phase }, { on := 6, ground := Go.Ground.phase }, { on := 7, ground := Go.Ground.phase }, { on := 8, ground := Go.Ground.phase }, { on := 9, ground := Go.Ground.phase }, { on := 10, ground := Go.Ground.phase }, { on := 11, ground := Go.Ground.phase }, { on := 12, ground := Go.Ground.phase }, { on := 13, ground := Go.Ground.phase }], guard := none }) (v := .int .i64 (m : Int)) rfl (by kernel_rfl) (by kernel_rfl) (by kernel_rfl) (fun _ _ _ h => h) (Or.inl ⟨by kernel_rfl, ?h1_14⟩) ?r1_14
  case h1_14 => (intro wt hSw; clear hSw; go_simp; try with_reducible rfl)
  simp only [Act.put, List.setIfInBounds_toArray, List.set_cons_zero, List.set_cons_succ]
  refine wpAnyG_done (by kernel_rfl) ?_ _
  have HB3 := hid hHeld3
  have HR3 := hid hR3
  clear hHeld hHeld2 hHeld3 hR3 HLA
  revert HB3 HR3
  generalize (w1.drew.alloc (.cells (icells zIi).toArray 87)).setCells w1.heap.size 0 (icells a) = w3
  intro HB3 HR3
  obtain ⟨b3, hb3⟩ : ∃ b3, w1.heap.size = b3 := ⟨_, rfl⟩
  rw [hb3] at HR3 hgs ⊢
  have hgb3 : g < b3 := by omega
  go_upto_region 2 with fail
  have c3 := HCC.out w3 HB3.out
  have HZ3 : Hid (_ ∧ _ ∧ _) := hid (HLZ.out w3 HB3.out)
  have HBT : Hid (Below w.heap.size w w3.drew) := below_two (below_two HB1.out HB3.out (Nat.le_refl _)) (below_drewN (Below.refl _ _) 1) (Nat.le_refl _)
  have HT0 := hid ((H.out.below HBT.out).frozen3 (k := 0) rfl (by have := HM.out; omega))
  refine wp_region_some (fun w' => w' = w3.drew) [12] (by kernel_rfl) ?_
  have hHeld := (show (fun w' => w' = w3.drew) w3.drew from rfl)
  refine wpAnyG_take' (i := 0) (oi := { dst := some 17, op := Go.Op.move (Go.Operand.tmp 0), type := 90, pos := "heap.go:35", after := #[], guard := none }) (v := ?v2_0) rfl (by kernel_rfl) (by kernel_rfl) (by kernel_rfl) (fun _ _ _ h => h) (Or.inl ⟨by kernel_rfl, ?h2_0⟩) ?r2_0
  case h2_0 => (intro wt hSw; clear hSw; go_simp; try with_reducible rfl)
  simp only [Act.put, List.setIfInBounds_toArray, List.set_cons_zero, List.set_cons_succ]
  refine wpAnyG_take' (i := 1) (oi := { dst := some 18, op := Go.Op.nilCheck (Go.Operand.tmp 17), type := 0, pos := "heap.go:35", after := #[{ on := 0, ground := Go.Ground.data }], guard := none }) (v := ?v2_1) rfl (by kernel_rfl) (by kernel_rfl) (by kernel_rfl) (fun _ _ _ h => h) (Or.inl ⟨by kernel_rfl, ?h2_1⟩) ?r2_1
  case h2_1 => (intro wt hSw; clear hSw; go_simp; try with_reducible rfl)
  simp only [Act.put, List.setIfInBounds_toArray, List.set_cons_zero, List.set_cons_succ]
  refine wpAnyG_take' (i := 2) (oi := { dst := some 19, op := Go.Op.fieldAddr 33 (Go.Operand.tmp 18) 0, type := 0, pos := "heap.go:35", after := #[{ on := 1, ground := Go.Ground.data }], guard := none }) (v := ?v2_2) rfl (by kernel_rfl) (by kernel_rfl) (by kernel_rfl) (fun _ _ _ h => h) (Or.inl ⟨by kernel_rfl, ?h2_2⟩) ?r2_2
  case h2_2 => (intro wt hSw; clear hSw; go_simp; try with_reducible rfl)
  simp only [Act.put, List.setIfInBounds_toArray, List.set_cons_zero, List.set_cons_succ]
  refine wpAnyG_take (i := 3) (oi := { dst := some 20, op := Go.Op.load 31 (Go.Operand.tmp 19), type := 31, pos := "heap.go:35", after := #[{ on := 2, ground := Go.Ground.data }], guard := none }) (v := ?v2_3) (by kernel_rfl) rfl (by kernel_rfl) (by kernel_rfl) (by kernel_rfl) (by kernel_rfl) (fun _ _ _ h => h) (Or.inl ⟨by kernel_rfl, ?h2_3⟩) (by assumption) ?r2_3
  case h2_3 => (intro wt hSw; (try dsimp only at hSw); subst hSw; go_simp; try rfl)
  simp only [Act.put, List.setIfInBounds_toArray, List.set_cons_zero, List.set_cons_succ]
  refine wpAnyG_take' (i := 4) (oi := { dst := some 21, op := Go.Op.move (Go.Operand.tmp 0), type := 90, pos := "heap.go:35", after := #[], guard := none }) (v := ?v2_4) rfl (by kernel_rfl) (by kernel_rfl) (by kernel_rfl) (fun _ _ _ h => h) (Or.inl ⟨by kernel_rfl, ?h2_4⟩) ?r2_4
  case h2_4 => (intro wt hSw; clear hSw; go_simp; try with_reducible rfl)
  simp only [Act.put, List.setIfInBounds_toArray, List.set_cons_zero, List.set_cons_succ]
  refine wpAnyG_take' (i := 5) (oi := { dst := some 22, op := Go.Op.nilCheck (Go.Operand.tmp 21), type := 0, pos := "heap.go:35", after := #[{ on := 4, ground := Go.Ground.data }], guard := none }) (v := ?v2_5) rfl (by kernel_rfl) (by kernel_rfl) (by kernel_rfl) (fun _ _ _ h => h) (Or.inl ⟨by kernel_rfl, ?h2_5⟩) ?r2_5
  case h2_5 => (intro wt hSw; clear hSw; go_simp; try with_reducible rfl)
  simp only [Act.put, List.setIfInBounds_toArray, List.set_cons_zero, List.set_cons_succ]
  refine wpAnyG_take' (i := 6) (oi := { dst := some 23, op := Go.Op.fieldAddr 33 (Go.Operand.tmp 22) 0, type := 0, pos := "heap.go:35", after := #[{ on := 5, ground := Go.Ground.data }], guard := none }) (v := ?v2_6) rfl (by kernel_rfl) (by kernel_rfl) (by kernel_rfl) (fun _ _ _ h => h) (Or.inl ⟨by kernel_rfl, ?h2_6⟩) ?r2_6
  case h2_6 => (intro wt hSw; clear hSw; go_simp; try with_reducible rfl)
  simp only [Act.put, List.setIfInBounds_toArray, List.set_cons_zero, List.set_cons_succ]
  refine wpAnyG_take (i := 7) (oi := { dst := some 24, op := Go.Op.load 31 (Go.Operand.tmp 23), type := 31, pos := "heap.go:35", after := #[{ on := 6, ground := Go.Ground.data }], guard := none }) (v := ?v2_7) (by kernel_rfl) rfl (by kernel_rfl) (by kernel_rfl) (by kernel_rfl) (by kernel_rfl) (fun _ _ _ h => h) (Or.inl ⟨by kernel_rfl, ?h2_7⟩) (by assumption) ?r2_7
  case h2_7 => (intro wt hSw; (try dsimp only at hSw); subst hSw; go_simp; try rfl)
  simp only [Act.put, List.setIfInBounds_toArray, List.set_cons_zero, List.set_cons_succ]
  refine wpAnyG_take' (i := 8) (oi := { dst := some 25, op := Go.Op.move (Go.Operand.tmp 4), type := 3, pos := "heap.go:35", after := #[], guard := none }) (v := ?v2_8) rfl (by kernel_rfl) (by kernel_rfl) (by kernel_rfl) (fun _ _ _ h => h) (Or.inl ⟨by kernel_rfl, ?h2_8⟩) ?r2_8
  case h2_8 => (intro wt hSw; clear hSw; go_simp; try with_reducible rfl)
  simp only [Act.put, List.setIfInBounds_toArray, List.set_cons_zero, List.set_cons_succ]
  refine wpAnyG_take' (i := 9) (oi := { dst := some 26, op := Go.Op.indexAddr 31 (Go.Operand.tmp 24) (Go.Operand.tmp 25), type := 0, pos := "heap.go:35", after := #[{ on := 7, ground := Go.Ground.data }, { on := 8, ground := Go.Ground.data }], guard := none }) (v := .pointer (some ⟨g, m * 3, none⟩)) rfl (by kernel_rfl) (by kernel_rfl) (by kernel_rfl) (fun _ _ _ h => h) (Or.inl ⟨by kernel_rfl, ?h2_9⟩) ?r2_9
  case h2_9 => (intro wt hSw; clear hSw; go_simp; try with_reducible rfl)
  simp only [Act.put, List.setIfInBounds_toArray, List.set_cons_zero, List.set_cons_succ]
  refine wpAnyG_take (i := 10) (oi := { dst := some 27, op := Go.Op.load 87 (Go.Operand.tmp 26), type := 87, pos := "heap.go:35", after := #[{ on := 9, ground := Go.Ground.data }], guard := none }) (v := .agg (icells z).toArray) (by kernel_rfl) rfl (by kernel_rfl) (by kernel_rfl) (by kernel_rfl) (by kernel_rfl) (fun _ _ _ h => h) (Or.inl ⟨by kernel_rfl, ?h2_10⟩) (by assumption) ?r2_10
  case h2_10 => (intro wt hSw; (try dsimp only at hSw); subst hSw; obtain ⟨l0, l1, l2⟩ := HZ3.out; go_simp; try rfl)
  simp only [Act.put, List.setIfInBounds_toArray, List.set_cons_zero, List.set_cons_succ]
  refine wpAnyG_take' (i := 11) (oi := { dst := some 28, op := Go.Op.indexAddr 31 (Go.Operand.tmp 20) (Go.Operand.const (Go.Value.int Go.IntKind.i64 0)), type := 0, pos := "heap.go:35", after := #[{ on := 3, ground := Go.Ground.data }, { on := 0, ground := Go.Ground.phase }, { on := 1, ground := Go.Ground.phase }, { on := 2, ground := Go.Ground.phase }, { on := 3, ground := Go.Ground.phase }, { on := 4, ground := Go.Ground.phase }, { on := 5, ground := Go.Ground.phase }, { on := 6, ground := Go.Ground.phase }, { on := 7, ground := Go.Ground.phase }, { on := 8, ground := Go.Ground.phase }, { on := 9, ground := Go.Ground.phase }, { on := 10, ground := Go.Ground.phase }], guard := none }) (v := .pointer (some ⟨g, 0, none⟩)) rfl (by kernel_rfl) (by kernel_rfl) (by kernel_rfl) (fun _ _ _ h => h) (Or.inl ⟨by kernel_rfl, ?h2_11⟩) ?r2_11
  case h2_11 => (intro wt hSw; clear hSw; go_simp; try with_reducible rfl)
  simp only [Act.put, List.setIfInBounds_toArray, List.set_cons_zero, List.set_cons_succ]
  refine wpAnyG_one (i := 12) (o := { dst := none, op := Go.Op.store 87 (Go.Operand.tmp 28) (Go.Operand.tmp 27), type := 0, pos := "heap.go:35", after := #[{ on := 11, ground := Go.Ground.data }, { on := 10, ground := Go.Ground.data }, { on := 0, ground := Go.Ground.phase }, { on := 1, ground := Go.Ground.phase }, { on := 2, ground := Go.Ground.phase }, { on := 3, ground := Go.Ground.phase }, { on := 4, ground := Go.Ground.phase }, { on := 5, ground := Go.Ground.phase }, { on := 6, ground := Go.Ground.phase }, { on := 7, ground := Go.Ground.phase }, { on := 8, ground := Go.Ground.phase }, { on := 9, ground := Go.Ground.phase }, { on := 10, ground := Go.Ground.phase }], guard := none }) rfl (by kernel_rfl) (by kernel_rfl) ?_
  refine step_storeI_i (it := z) (b := g) (j := 0 * 3) rfl rfl rfl HT0.out oz ?_
  refine ⟨fun h => absurd (by simp) h, ?_⟩
  simp only [Act.put]
  refine wpAnyG_done (by kernel_rfl) ?_ _
  clear hHeld HZ3 HLZ HCC c3
  obtain ⟨P4, P5, P6⟩ := pop_memi H.out HM.out HH.out HA.out HZ.out HBT.out
  have HP4 := hid P4
  have HP5 := hid P5
  have HP6 := hid P6
  clear P4 P5 P6
  have HR4 : Hid (Row (w3.drew.setCells g (0 * 3) (icells z)) b3 (icells a) 87) := hid ((HR3.out.drew 1).cellsOther (by omega) _ _)
  have HR2b : Hid (Row w3.drew b2 (icells zIi) 87) := hid (HR2.out.kept (below_two HB3.out (below_drewN (Below.refl _ _) 1) (Nat.le_refl _)) HR2.out.lt)
  generalize hw3 : w3.drew = w3d at *
  generalize hw4 : w3d.setCells g (0 * 3) (icells z) = w4 at *
  have c4 := HP4.out.cell
  have HT4 := hid (HP4.out.frozen3 (k := m) rfl (by simp [HM.out]))
  go_upto_region 4 with (show wpList _ _ _ (Oper.mk none (.store 87 (.tmp 35) (.tmp 34)) _ _ _ _ :: _) _ _; refine wpList_store_mid rfl 87 (.tmp 35) (.tmp 34) rfl g (m * 3) (icells zIi).toArray rfl rfl HT4.out info_i (all_oneCell_toArray (icells_one rfl)) ?_; simp only [Act.put])
  have HR5 : Hid (Row (w4.setCells g (m * 3) (icells zIi)) b3 (icells a) 87) := hid (HR4.out.cellsOther (by omega) _ _)
  have HR2c : Hid (Row (w4.setCells g (m * 3) (icells zIi)) b2 (icells zIi) 87) := hid (by
    rw [← hw4]
    exact (HR2b.out.cellsOther (by omega) _ _).cellsOther (by omega) _ _)
  clear HT4 HT0 HP4 HR4 HR2b HR3 HR2 c4 hw4
  generalize hw5 : w4.setCells g (m * 3) (icells zIi) = w5 at *
  have c5 := HP5.out.cell
  have f5 : w5.frozen? ⟨p, o, none⟩ = false := HP5.out.row.frozen o
  obtain ⟨Q1, Q2, Q3, Q4⟩ := HP6.out _ rfl
  have HSK := hid (sink_i Q1 Q2 (by simp; have := HM.out; omega))
  have HQ4 := hid Q4
  have hb2p : b2 ≠ p := fun e => by
    have h1 := H.out.row.lt
    omega
  have hb3p : b3 ≠ p := fun e => by
    have h1 := H.out.row.lt
    omega
  have HR6 := hid (HR5.out.setOther ⟨p, o, none⟩ hb3p (.slice (some ⟨g, 0, none⟩) m cap))
  have HR2d := hid (HR2c.out.setOther ⟨p, o, none⟩ hb2p (.slice (some ⟨g, 0, none⟩) m cap))
  clear Q1 Q2 Q3 Q4 HP5 HP6 HR5 HR2c
  go_wp2_with (first
    | (go_at_call 48; refine Calls.mono HSK.out ?_; rintro e w7 ⟨rfl, hE⟩; have hF := hE; obtain ⟨_, _, _, _, hF⟩ := hF; have HR7 := hid (hF.row HR6.out (fun e => by simp [Value.ownBlock] at e; omega)); have HR2e := hid (hF.row HR2d.out (fun e => by simp [Value.ownBlock] at e; omega)); have HEN := hid (HQ4.out _ hE); clear hE hF)
    | (show wpList _ _ _ (Oper.mk _ (.load 87 (.tmp 3)) _ _ _ _ :: _) _ _; refine HR7.out.wpLoad 87 (.tmp 3) rfl rfl rfl _ Try.underlying87 rfl info_i ?_)
    | (show wpList _ _ _ (Oper.mk none (.store 87 (.tmp 2) (.tmp 47)) _ _ _ _ :: _) _ _; refine HR2e.out.wpStore' 87 (.tmp 2) (.tmp 47) (icells a) rfl rfl rfl rfl rfl (icells_one oa) info_i ?_; intro w8 HW8))
  have hF8 : Fr (fun j => j = b2) w7 w8 := by
    have := Only.setRow (S := [b2]) (Only.refl _ w7) b2 (icells a).toArray (.inl (by simp))
    rw [HW8.out]
    exact ⟨this.os, this.tape, this.output, this.size, fun k hk hne => this.block k hk (fun e => hne (by simpa using e))⟩
  have R8 : Row w8 b2 (icells a) 87 := by rw [HW8.out]; exact HR2e.out.row _
  exact bodyPost_ret (v := .agg (icells a).toArray) (R8.result Try.results42 _ rfl _ Try.underlying87 rfl info_i) rfl ⟨rfl, HEN.out.far hF8 (by omega) (by omega) (fun h e => by simp [Value.ownBlock] at e; omega)⟩
end Go.Proofs.Ytoeldomhkeancaa
