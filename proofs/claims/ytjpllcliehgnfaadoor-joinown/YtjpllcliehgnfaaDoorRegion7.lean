import Derived.Test.YtjpllcliehgnfaaDoorSteps
namespace Go.Proofs.YtjpllcliehgnfaaDoor
open Go.RowKit
set_option maxRecDepth 100000

theorem wpAny_act {md : Region.Mode} {ops : Array Oper} {Q : Exit → Act → World → Prop} {fuel : Nat} {listed : Array Bool} {a : Act} {w : World} (h : ∀ A, Hid (A = a) → wpAny Tryd.prog md ops Q fuel listed A w) : wpAny Tryd.prog md ops Q fuel listed a w := h a rfl
theorem ready_one {md : Region.Mode} {ops : Array Oper} {Q : Exit → Act → World → Prop} {fuel : Nat} {listed : Array Bool} {a : Act} {w : World} {i : Nat} {o : Oper} {rs : List Nat} (ho : ops[i]? = some o) (hgd : o.guard = none)
    (h : ∀ K' : Act → World → Prop, (∀ a w, wpAny Tryd.prog md ops Q fuel (listed.setIfInBounds i true) a w → K' a w) → Oper.wp Tryd.prog o a w K' Q) (hs : AllReady Tryd.prog md ops Q fuel listed a w rs) : AllReady Tryd.prog md ops Q fuel listed a w (i :: rs) :=
  AllReady.cons ho (fun K hK => by rw [if_pos (by simp [Region.wanted, hgd])]; exact h K hK) hs
theorem last_one {md : Region.Mode} {ops : Array Oper} {Q : Exit → Act → World → Prop} {fuel : Nat} {listed : Array Bool} {a : Act} {w : World} {i : Nat} {o : Oper} (hr : Region.ready md ops listed = [i]) (ho : ops[i]? = some o) (hgd : o.guard = none)
    (hd : Region.ready md ops (listed.setIfInBounds i true) = []) (h : ∀ K' : Act → World → Prop, (∀ a w, Q .normal a w → K' a w) → Oper.wp Tryd.prog o a w K' Q) : wpAny Tryd.prog md ops Q (fuel + 1) listed a w :=
  wpAny_ready hr (by simp) (ready_one ho hgd (fun K hK => h K (fun a w hq => hK a w (wpAny_done hd hq fuel))) AllReady.nil)
theorem last_store {md : Region.Mode} {ops : Array Oper} {Q : Exit → Act → World → Prop} {fuel : Nat} {listed : Array Bool} {a : Act} {w : World} {i : Nat} {o : Oper} (hr : Region.ready md ops listed = [i]) (ho : ops[i]? = some o) (hgd : o.guard = none)
    (hd : Region.ready md ops (listed.setIfInBounds i true) = []) {p : Nat} {cur : List Value} {t : TypeId} (R : Row w p cur t) (off : Nat) (ty : TypeId) (x y : Operand) (hop : o.op = .store ty x y) (hdst : o.dst = none) (hx : a.eval x = .pointer (some ⟨p, off, none⟩)) (cs : List Value) (hy : a.eval y = .agg cs.toArray)
    (hl : off + cs.length ≤ cur.length) (h1 : ∀ v ∈ cs, v.oneCell' = true) (hi : (Tryd.prog.info? ty).map (·.size) = some cs.length)
    (h : ∀ w', w' = w.setRow p (cur.take off ++ cs ++ cur.drop (off + cs.length)).toArray → Q .normal a w') : wpAny Tryd.prog md ops Q (fuel + 1) listed a w :=
  last_one hr ho hgd hd (fun K hK => step_store R off ty x y hop hx cs hy hl h1 hi (fun w' h' => hK _ _ (by rw [hdst]; exact h w' h'.out)))
def fin7 (a : Act) (p : Nat) (s' : St) (L : List (BitVec 8)) : Act := ((((((((((((a.put (some 40) (.pointer (some ⟨p, 0, none⟩))).put (some 41) (.pointer (some ⟨p, 0, none⟩))).put (some 42) (.pointer (some ⟨p, 0, none⟩))).put (some 43) (.pointer (some ⟨p, 1, none⟩))).put (some 45) (.pointer (some ⟨p, 0, none⟩))).put (some 46) (.pointer (some ⟨p, 0, none⟩))).put (some 47) (.pointer (some ⟨p, 9, none⟩))).put (some 44) (.agg (wcells s'.l).toArray)).put (some 48) (.agg (bcells L).toArray)).put (some 49) (.agg (wcells (mix s' L).l).toArray)).put (some 50) (.pointer (some ⟨p, 0, none⟩))).put (some 51) (.pointer (some ⟨p, 1, none⟩)))
def op12 (q : String) : Oper := { dst := none, op := Op.store 90 (Operand.tmp 51) (Operand.tmp 49), type := 0, pos := q, after := #[{ on := 11, ground := Ground.data }, { on := 9, ground := Ground.data }, { on := 9, ground := Ground.chain }, { on := 0, ground := Ground.phase }, { on := 1, ground := Ground.phase }, { on := 2, ground := Ground.phase }, { on := 3, ground := Ground.phase }, { on := 4, ground := Ground.phase }, { on := 5, ground := Ground.phase }, { on := 6, ground := Ground.phase }, { on := 7, ground := Ground.phase }, { on := 8, ground := Ground.phase }, { on := 9, ground := Ground.phase }], guard := none }
def ops7 (q : String) : List Oper := [{ dst := some 40, op := Op.move (Operand.tmp 0), type := 108, pos := q, after := #[], guard := none }, { dst := some 41, op := Op.move (Operand.tmp 0), type := 108, pos := q, after := #[], guard := none }, { dst := some 42, op := Op.nilCheck (Operand.tmp 41), type := 0, pos := q, after := #[{ on := 1, ground := Ground.data }], guard := none }, { dst := some 43, op := Op.fieldAddr 94 (Operand.tmp 42) 1, type := 0, pos := q, after := #[{ on := 2, ground := Ground.data }], guard := none }, { dst := some 44, op := Op.load 90 (Operand.tmp 43), type := 90, pos := q, after := #[{ on := 3, ground := Ground.data }], guard := none }, { dst := some 45, op := Op.move (Operand.tmp 0), type := 108, pos := q, after := #[], guard := none }, { dst := some 46, op := Op.nilCheck (Operand.tmp 45), type := 0, pos := q, after := #[{ on := 5, ground := Ground.data }], guard := none }, { dst := some 47, op := Op.fieldAddr 94 (Operand.tmp 46) 2, type := 0, pos := q, after := #[{ on := 6, ground := Ground.data }], guard := none }, { dst := some 48, op := Op.load 92 (Operand.tmp 47), type := 92, pos := q, after := #[{ on := 7, ground := Ground.data }], guard := none }, { dst := some 49, op := Op.call { callee := Callee.value (Operand.func 66), args := #[Operand.tmp 44, Operand.tmp 48], argTypes := #[90, 92] }, type := 90, pos := q, after := #[{ on := 4, ground := Ground.data }, { on := 8, ground := Ground.data }], guard := none }, { dst := some 50, op := Op.nilCheck (Operand.tmp 40), type := 0, pos := q, after := #[{ on := 0, ground := Ground.data }, { on := 0, ground := Ground.phase }, { on := 1, ground := Ground.phase }, { on := 2, ground := Ground.phase }, { on := 3, ground := Ground.phase }, { on := 4, ground := Ground.phase }, { on := 5, ground := Ground.phase }, { on := 6, ground := Ground.phase }, { on := 7, ground := Ground.phase }, { on := 8, ground := Ground.phase }, { on := 9, ground := Ground.phase }], guard := none }, { dst := some 51, op := Op.fieldAddr 94 (Operand.tmp 50) 1, type := 0, pos := q, after := #[{ on := 10, ground := Ground.data }, { on := 0, ground := Ground.phase }, { on := 1, ground := Ground.phase }, { on := 2, ground := Ground.phase }, { on := 3, ground := Ground.phase }, { on := 4, ground := Ground.phase }, { on := 5, ground := Ground.phase }, { on := 6, ground := Ground.phase }, { on := 7, ground := Ground.phase }, { on := 8, ground := Ground.phase }, { on := 9, ground := Ground.phase }], guard := none }, op12 q]
theorem at12 (q : String) : (ops7 q).toArray[12]? = some (op12 q) := by kernel_rfl

set_option maxHeartbeats 2000000 in
/-- The statement that mixes a full block into the state, in whatever order its operations come up. -/
theorem region7 {Q : Exit → Act → World → Prop} (a : Act) {w : World} {q : String} {p : Nat} {s' : St} {L : List (BitVec 8)} {M : Nat} (SZ : a.tmps.size = 52) (E0 : a.eval (.tmp 0) = .pointer (some ⟨p, 0, none⟩))
    (hQ : ∀ c (d : Nat) v a w, Q (.panic c) (a.put (some d) v) w → Q (.panic c) a w) (R0 : Row w p (hcells s' L M) 94) (hL : L.length = 64) (hK0 : KTab w)
    (hk0 : ∀ w8, Row w8 p (hcells (mix s' L) L M) 94 → Only p w w8 → Q .normal (fin7 a p s' L) w8) : (Code.region 7 (ops7 q).toArray true).wp Tryd.prog Q a w := by
  have i34 : (Tryd.prog.info? 90).map (·.size) = some 8 := by kernel_rfl
  have i36 : (Tryd.prog.info? 92).map (·.size) = some 64 := by kernel_rfl
  refine wp_region_any (by kernel_rfl) ?_
  have R := R0.drawn (w.drawn + 1)
  have hK1 : KTab { w with drawn := w.drawn + 1 } := hK0
  have hk : ∀ w8, Row w8 p (hcells (mix s' L) L M) 94 → Only p { w with drawn := w.drawn + 1 } w8 → Q .normal (fin7 a p s' L) w8 :=
    fun w8 r o => hk0 w8 r ⟨o.os, o.tape, o.output, o.size, o.block⟩
  generalize ({ w with drawn := w.drawn + 1 } : World) = w at *
  clear R0 hK0 hk0
  refine wpAny_take (i := 0) (oi := ⟨some 40, .move (.tmp 0), _, _, _, none⟩) (v := _) rfl (by kernel_rfl) (by kernel_rfl) (by kernel_rfl) (fun _ _ _ h => hQ _ _ _ _ _ h) (yields_move (.tmp 0) _ rfl rfl (E0)) ?_
  refine wpAny_take (i := 1) (oi := ⟨some 41, .move (.tmp 0), _, _, _, none⟩) (v := _) rfl (by kernel_rfl) (by kernel_rfl) (by kernel_rfl) (fun _ _ _ h => hQ _ _ _ _ _ h) (yields_move (.tmp 0) _ rfl rfl ((Act.eval_put_ne _ _ _ _ (by decide)).trans (E0))) ?_
  refine wpAny_take (i := 2) (oi := ⟨some 42, .nilCheck (.tmp 41), _, _, _, none⟩) (v := _) rfl (by kernel_rfl) (by kernel_rfl) (by kernel_rfl) (fun _ _ _ h => hQ _ _ _ _ _ h) (yields_nilCheck (.tmp 41) _ rfl rfl (Act.eval_put_same _ _ _ (by (try simp only [Act.size_put]); rw [SZ]; decide))) ?_
  refine wpAny_take (i := 3) (oi := ⟨some 43, .fieldAddr 94 (.tmp 42) 1, _, _, _, none⟩) (v := _) rfl (by kernel_rfl) (by kernel_rfl) (by kernel_rfl) (fun _ _ _ h => hQ _ _ _ _ _ h) (yields_field (.tmp 42) p 1 1 rfl rfl (Act.eval_put_same _ _ _ (by (try simp only [Act.size_put]); rw [SZ]; decide)) (fun _ _ => by kernel_rfl)) ?_
  refine wpAny_take (i := 5) (oi := ⟨some 45, .move (.tmp 0), _, _, _, none⟩) (v := _) rfl (by kernel_rfl) (by kernel_rfl) (by kernel_rfl) (fun _ _ _ h => hQ _ _ _ _ _ h) (yields_move (.tmp 0) _ rfl rfl ((Act.eval_put_ne _ _ _ _ (by decide)).trans ((Act.eval_put_ne _ _ _ _ (by decide)).trans ((Act.eval_put_ne _ _ _ _ (by decide)).trans ((Act.eval_put_ne _ _ _ _ (by decide)).trans (E0)))))) ?_
  refine wpAny_take (i := 6) (oi := ⟨some 46, .nilCheck (.tmp 45), _, _, _, none⟩) (v := _) rfl (by kernel_rfl) (by kernel_rfl) (by kernel_rfl) (fun _ _ _ h => hQ _ _ _ _ _ h) (yields_nilCheck (.tmp 45) _ rfl rfl (Act.eval_put_same _ _ _ (by (try simp only [Act.size_put]); rw [SZ]; decide))) ?_
  refine wpAny_take (i := 7) (oi := ⟨some 47, .fieldAddr 94 (.tmp 46) 2, _, _, _, none⟩) (v := _) rfl (by kernel_rfl) (by kernel_rfl) (by kernel_rfl) (fun _ _ _ h => hQ _ _ _ _ _ h) (yields_field (.tmp 46) p 2 9 rfl rfl (Act.eval_put_same _ _ _ (by (try simp only [Act.size_put]); rw [SZ]; decide)) (fun _ _ => by kernel_rfl)) ?_
  refine wpAny_act fun A HA => ?_
  have e40 : A.eval (.tmp 40) = .pointer (some ⟨p, 0, none⟩) := by rw [HA.out]; exact (Act.eval_put_ne _ _ _ _ (by decide)).trans ((Act.eval_put_ne _ _ _ _ (by decide)).trans ((Act.eval_put_ne _ _ _ _ (by decide)).trans ((Act.eval_put_ne _ _ _ _ (by decide)).trans ((Act.eval_put_ne _ _ _ _ (by decide)).trans ((Act.eval_put_ne _ _ _ _ (by decide)).trans (Act.eval_put_same _ _ _ (by (try simp only [Act.size_put]); rw [SZ]; decide)))))))
  have e43 : A.eval (.tmp 43) = .pointer (some ⟨p, 1, none⟩) := by rw [HA.out]; exact (Act.eval_put_ne _ _ _ _ (by decide)).trans ((Act.eval_put_ne _ _ _ _ (by decide)).trans ((Act.eval_put_ne _ _ _ _ (by decide)).trans (Act.eval_put_same _ _ _ (by (try simp only [Act.size_put]); rw [SZ]; decide))))
  have e47 : A.eval (.tmp 47) = .pointer (some ⟨p, 9, none⟩) := by rw [HA.out]; exact Act.eval_put_same _ _ _ (by (try simp only [Act.size_put]); rw [SZ]; decide)
  replace SZ : A.tmps.size = 52 := by rw [HA.out]; simp only [Act.size_put]; exact SZ
  refine wpAny_ready (rs := [4, 8]) (by kernel_rfl) (by simp) ?_
  refine ready_one (o := ⟨some 44, .load 90 (.tmp 43), _, _, _, none⟩) rfl rfl (fun K hK => ?_) (ready_one (o := ⟨some 48, .load 92 (.tmp 47), _, _, _, none⟩) rfl rfl (fun K hK => ?_) AllReady.nil)
  · refine step_load (w := w) (p := p) (cur := hcells s' L M) (t := 94) ?r1 1 90 (.tmp 43) rfl ?e1 (wcells s'.l) (.array 8 27) ?hcs1 Tryd.underlying90 rfl ?hi1 ?hk1
    case r1 => exact R
    case e1 => exact e43
    case hcs1 => exact hcells_st _ _ _
    case hi1 => exact i34
    refine hK _ _ ?_
    clear hK K
    refine wpAny_ready (rs := [8]) (by kernel_rfl) (by simp) (ready_one (o := ⟨some 48, .load 92 (.tmp 47), _, _, _, none⟩) rfl rfl (fun K hK => ?_) AllReady.nil)
    refine step_load (w := w) (p := p) (cur := hcells s' L M) (t := 94) ?r2 9 92 (.tmp 47) rfl ?e2 (bcells L) (.array 64 5) ?hcs2 Tryd.underlying92 rfl ?hi2 ?hk2
    case r2 => exact R
    case e2 => exact (Act.eval_put_ne _ _ _ _ (by decide)).trans (e47)
    case hcs2 => exact hcells_left _ _ _
    case hi2 => rw [bcells_len, hL]; exact i36
    refine hK _ _ ?_
    clear hK K
    refine wpAny_ready (rs := [9]) (by kernel_rfl) (by simp) (ready_one (o := ⟨some 49, .call { callee := .value (.func 66), args := #[.tmp 44, .tmp 48], argTypes := #[90, 92] }, _, _, _, none⟩) rfl rfl (fun K hK => ?_) AllReady.nil)
    refine step_call31 (x := .tmp 44) (y := .tmp 48) (vx := .agg (wcells s'.l).toArray) (vy := .agg (bcells L).toArray) (v := .agg (wcells (mix s' L).l).toArray) (G := Below w.heap.size w) rfl ?ea3 ?eb3 (mixed_any s' L hL hK1) ?hc3
    case ea3 => exact ((Act.eval_put_ne _ _ _ _ (by decide)).trans (Act.eval_put_same _ _ _ (by (try simp only [Act.size_put]); rw [SZ]; decide)))
    case eb3 => exact (Act.eval_put_same _ _ _ (by (try simp only [Act.size_put]); rw [SZ]; decide))
    intro w7 hb7
    refine hK _ _ ?_
    clear hK K
    refine wpAny_take (i := 10) (oi := ⟨some 50, .nilCheck (.tmp 40), _, _, _, none⟩) (v := _) rfl (by kernel_rfl) (by kernel_rfl) (by kernel_rfl) (fun _ _ _ h => hQ _ _ _ _ _ h) (yields_nilCheck (.tmp 40) _ rfl rfl ((Act.eval_put_ne _ _ _ _ (by decide)).trans ((Act.eval_put_ne _ _ _ _ (by decide)).trans ((Act.eval_put_ne _ _ _ _ (by decide)).trans (e40))))) ?_
    refine wpAny_take (i := 11) (oi := ⟨some 51, .fieldAddr 94 (.tmp 50) 1, _, _, _, none⟩) (v := _) rfl (by kernel_rfl) (by kernel_rfl) (by kernel_rfl) (fun _ _ _ h => hQ _ _ _ _ _ h) (yields_field (.tmp 50) p 1 1 rfl rfl (Act.eval_put_same _ _ _ (by (try simp only [Act.size_put]); rw [SZ]; decide)) (fun _ _ => by kernel_rfl)) ?_
    refine last_store (i := 12) (o := op12 q) ?zz1 (at12 q) rfl ?yy1 (w := w7) (p := p) (cur := hcells s' L M) (t := 94) ?rr1 1 90 (.tmp 51) (.tmp 49) rfl rfl ?sa1 (wcells (mix s' L).l) ?sb1 ?sl1 (wcells_one _) ?si1 ?sk1
    case zz1 => kernel_rfl
    case yy1 => kernel_rfl
    case rr1 => exact R.kept hb7 R.lt
    case sa1 => exact (Act.eval_put_same _ _ _ (by (try simp only [Act.size_put]); rw [SZ]; decide))
    case sb1 => exact ((Act.eval_put_ne _ _ _ _ (by decide)).trans ((Act.eval_put_ne _ _ _ _ (by decide)).trans (Act.eval_put_same _ _ _ (by (try simp only [Act.size_put]); rw [SZ]; decide))))
    case sl1 => rw [hcells_len _ _ _ hL]; show 9 ≤ 74; decide
    case si1 => exact i34
    intro w8 H8
    have R8 : Row w8 p (hcells (mix s' L) L M) 94 := by
      have := (R.kept hb7 R.lt).row ((hcells s' L M).take 1 ++ wcells (mix s' L).l ++ (hcells s' L M).drop (1 + (wcells (mix s' L).l).length))
      rw [← H8, hcells_setSt] at this
      exact this
    have O8 : Only p w w8 := by
      rw [H8]
      exact ((Only.refl p w).trans (Only.of_below hb7 (Nat.le_refl _))).setRow _
    have := hk w8 R8 O8
    unfold fin7 at this
    rw [← HA.out] at this
    exact this
  · refine step_load (w := w) (p := p) (cur := hcells s' L M) (t := 94) ?r5 9 92 (.tmp 47) rfl ?e5 (bcells L) (.array 64 5) ?hcs5 Tryd.underlying92 rfl ?hi5 ?hk5
    case r5 => exact R
    case e5 => exact e47
    case hcs5 => exact hcells_left _ _ _
    case hi5 => rw [bcells_len, hL]; exact i36
    refine hK _ _ ?_
    clear hK K
    refine wpAny_ready (rs := [4]) (by kernel_rfl) (by simp) (ready_one (o := ⟨some 44, .load 90 (.tmp 43), _, _, _, none⟩) rfl rfl (fun K hK => ?_) AllReady.nil)
    refine step_load (w := w) (p := p) (cur := hcells s' L M) (t := 94) ?r6 1 90 (.tmp 43) rfl ?e6 (wcells s'.l) (.array 8 27) ?hcs6 Tryd.underlying90 rfl ?hi6 ?hk6
    case r6 => exact R
    case e6 => exact (Act.eval_put_ne _ _ _ _ (by decide)).trans (e43)
    case hcs6 => exact hcells_st _ _ _
    case hi6 => exact i34
    refine hK _ _ ?_
    clear hK K
    refine wpAny_ready (rs := [9]) (by kernel_rfl) (by simp) (ready_one (o := ⟨some 49, .call { callee := .value (.func 66), args := #[.tmp 44, .tmp 48], argTypes := #[90, 92] }, _, _, _, none⟩) rfl rfl (fun K hK => ?_) AllReady.nil)
    refine step_call31 (x := .tmp 44) (y := .tmp 48) (vx := .agg (wcells s'.l).toArray) (vy := .agg (bcells L).toArray) (v := .agg (wcells (mix s' L).l).toArray) (G := Below w.heap.size w) rfl ?ea7 ?eb7 (mixed_any s' L hL hK1) ?hc7
    case ea7 => exact (Act.eval_put_same _ _ _ (by (try simp only [Act.size_put]); rw [SZ]; decide))
    case eb7 => exact ((Act.eval_put_ne _ _ _ _ (by decide)).trans (Act.eval_put_same _ _ _ (by (try simp only [Act.size_put]); rw [SZ]; decide)))
    intro w7 hb7
    refine hK _ _ ?_
    clear hK K
    refine wpAny_take (i := 10) (oi := ⟨some 50, .nilCheck (.tmp 40), _, _, _, none⟩) (v := _) rfl (by kernel_rfl) (by kernel_rfl) (by kernel_rfl) (fun _ _ _ h => hQ _ _ _ _ _ h) (yields_nilCheck (.tmp 40) _ rfl rfl ((Act.eval_put_ne _ _ _ _ (by decide)).trans ((Act.eval_put_ne _ _ _ _ (by decide)).trans ((Act.eval_put_ne _ _ _ _ (by decide)).trans (e40))))) ?_
    refine wpAny_take (i := 11) (oi := ⟨some 51, .fieldAddr 94 (.tmp 50) 1, _, _, _, none⟩) (v := _) rfl (by kernel_rfl) (by kernel_rfl) (by kernel_rfl) (fun _ _ _ h => hQ _ _ _ _ _ h) (yields_field (.tmp 50) p 1 1 rfl rfl (Act.eval_put_same _ _ _ (by (try simp only [Act.size_put]); rw [SZ]; decide)) (fun _ _ => by kernel_rfl)) ?_
    refine last_store (i := 12) (o := op12 q) ?zz2 (at12 q) rfl ?yy2 (w := w7) (p := p) (cur := hcells s' L M) (t := 94) ?rr2 1 90 (.tmp 51) (.tmp 49) rfl rfl ?sa2 (wcells (mix s' L).l) ?sb2 ?sl2 (wcells_one _) ?si2 ?sk2
    case zz2 => kernel_rfl
    case yy2 => kernel_rfl
    case rr2 => exact R.kept hb7 R.lt
    case sa2 => exact (Act.eval_put_same _ _ _ (by (try simp only [Act.size_put]); rw [SZ]; decide))
    case sb2 => exact ((Act.eval_put_ne _ _ _ _ (by decide)).trans ((Act.eval_put_ne _ _ _ _ (by decide)).trans (Act.eval_put_same _ _ _ (by (try simp only [Act.size_put]); rw [SZ]; decide))))
    case sl2 => rw [hcells_len _ _ _ hL]; show 9 ≤ 74; decide
    case si2 => exact i34
    intro w8 H8
    have R8 : Row w8 p (hcells (mix s' L) L M) 94 := by
      have := (R.kept hb7 R.lt).row ((hcells s' L M).take 1 ++ wcells (mix s' L).l ++ (hcells s' L M).drop (1 + (wcells (mix s' L).l).length))
      rw [← H8, hcells_setSt] at this
      exact this
    have O8 : Only p w w8 := by
      rw [H8]
      exact ((Only.refl p w).trans (Only.of_below hb7 (Nat.le_refl _))).setRow _
    have := hk w8 R8 O8
    unfold fin7 at this
    rw [← HA.out] at this
    rw [Act.put_comm A (.agg (wcells s'.l).toArray) (.agg (bcells L).toArray) (fun d h => by cases h; decide)] at this
    exact this
end Go.Proofs.YtjpllcliehgnfaaDoor
