import Derived.Test.YtoeldomhkeancaaFt0
namespace Go.Proofs.Ytoeldomhkeancaa
open Go.RowKit Go.Maps
set_option maxRecDepth 100000

theorem inf4 : ∃ i : TypeInfo, Try.prog.info? 4 = some i ∧ i.zero = some (.bool false) ∧ i.size = 1 ∧ i.bytes = 1 := by
  have h : (Try.prog.info? 4).map (fun i => (i.zero, i.size, i.bytes)) = some (some (.bool false), 1, 1) := by kernel_rfl
  cases hq : Try.prog.info? 4 with
  | none => rw [hq] at h; cases h
  | some i => rw [hq] at h; simp at h; exact ⟨i, rfl, h.1, h.2.1, h.2.2⟩
theorem inf3 : ∃ i : TypeInfo, Try.prog.info? 3 = some i ∧ i.zero = some (.int .i64 0) ∧ i.size = 1 ∧ i.bytes = 8 := by
  have h : (Try.prog.info? 3).map (fun i => (i.zero, i.size, i.bytes)) = some (some (.int .i64 0), 1, 8) := by kernel_rfl
  cases hq : Try.prog.info? 3 with
  | none => rw [hq] at h; cases h
  | some i => rw [hq] at h; simp at h; exact ⟨i, rfl, h.1, h.2.1, h.2.2⟩
/-- 'append' of cells that may be none to an own row of one-cell elements. -/
theorem wpAppend1 {t e bytes : Nat} {i : TypeInfo} {z : Value} (ht : Try.prog.underlying t = some (.slice e)) (i1 : Try.prog.info? e = some i) (i2 : i.zero = some z) (i3 : i.size = 1) (i4 : i.bytes = bytes) (hz1 : z.cells.size = 1) (hby : bytes ≤ 8)
    {ops : Array Oper} {rest : List Oper} {o : Oper} {a : Act} {w : World} {Q : Exit → Act → World → Prop} (s x : Operand) (hgd : o.guard = none) (ho : o.op = .call { callee := .builtin .append, args := #[s, x], argTypes := #[t, t] })
    {base k : Nat} {v : Value} {old : List Value} (hs : a.eval s = v) (hown : w.ownsRow base e 1 v k old) (hbase : base ≤ w.heap.size)
    {ax : Option Addr} {n c : Nat} {bs : List Value} (hx : a.eval x = .slice ax n c) (hz : ax = none → c = 0) (hn : bs.length = n) (hB : ElAt w ax bs) (h1 : ∀ u ∈ bs, u.oneCell' = true) (hl : k + n ≤ 17592186044416)
    (h : ∀ w' v', Hid (w'.ownsRow base e 1 v' (k + n) (old ++ bs)) → Hid (w.grownBy w' v.ownBlock ∧ (v'.ownBlock = v.ownBlock ∨ v'.ownBlock = some w.heap.size)) → wpList Try.prog ops Q rest (a.put o.dst v') w') : wpList Try.prog ops Q (o :: rest) a w := by
  subst hn
  cases ax with
  | none =>
    obtain rfl : bs = [] := by
      cases bs with
      | nil => rfl
      | cons b l => obtain ⟨g, o, e, _⟩ := hB 0 b rfl; cases e
    obtain rfl : c = 0 := hz rfl
    refine wpList_append_own_none hgd s x t ho base e i 1 ht i1 v k old hs hown hx (h w v ?_ ⟨World.grownBy.refl _ _, .inl rfl⟩)
    show World.ownsRow _ _ _ _ _ _ _
    rw [List.append_nil]
    exact hown
  | some ad =>
    refine wpList_append_own_at w hgd s x t ho base e i z 1 bytes ht i1 i2 i3 i4 hz1 (by decide) v k old hs hown ad bs.length c bs hx (by omega) ?_ h1 (by unfold maxLen; omega) ?_ hbase ?_
    · intro j u hv
      obtain ⟨g2, o2, e2, c2⟩ := hB j u hv
      cases e2
      rw [Addr.add_mid]
      exact c2
    · exact Nat.le_trans (Nat.mul_le_mul hl hby) (by decide)
    · intro v' w' hown' hgrow _ hat
      exact h w' v' hown' ⟨hgrow, hat⟩
set_option maxHeartbeats 1000000 in
theorem clone_b {w : World} {a : Option Addr} {n cap : Nat} {xs : List Value} (hB : ElAt w a xs) (hn : xs.length = n) (h1 : ∀ u ∈ xs, u.oneCell' = true) (hl : n ≤ 65536) :
    Calls Try.prog 26 #[.slice a n cap] w fun e w' => ∃ v, e = .returned v ∧ w'.ownsRow w.heap.size 4 1 v n xs ∧ Below w.heap.size w w' := by
  cases a with
  | none =>
    obtain rfl : xs = [] := by
      cases xs with
      | nil => rfl
      | cons b l => obtain ⟨g, o, e, _⟩ := hB 0 b rfl; cases e
    obtain rfl : n = 0 := hn.symm
    clear hB hn h1 hl
    have HP : Hid (w.ownsRow w.heap.size 4 1 (.slice none 0 0) 0 []) := ⟨rfl, .inl ⟨rfl, rfl⟩⟩
    have he : ∀ w : World, (binOp .eql 25 (.slice none 0 cap) (.slice none 0 0)).run Try.prog w = .ok (.bool true) w := fun _ => rfl
    go_enter Try.func26, Try.ntmps26
    go_wp2
    go_ret
    exact ⟨_, rfl, HP.out, Below.refl _ _⟩
  | some ad =>
    have HB := hid hB
    have HN := hid hn
    have HL := hid hl
    have H1 := hid h1
    obtain ⟨i, i1, i2, i3, i4⟩ := inf4
    have he : ∀ w : World, (binOp .eql 25 (.slice (some ad) n cap) (.slice none 0 0)).run Try.prog w = .ok (.bool false) w := fun _ => rfl
    clear hB hn hl h1
    go_enter Try.func26, Try.ntmps26
    go_wp2_with (at_builtin; refine wpAppend1 Try.underlying25 i1 i2 i3 i4 rfl (by decide) (.tmp 5) (.tmp 6) rfl rfl (base := w.heap.size) (v := .slice (some ⟨w.heap.size, 0, none⟩) 0 0) (old := []) rfl ⟨rfl, .inr ⟨w.heap.size, 0, #[], rfl, Nat.le_refl _, heap_alloc_last w _, Nat.le_refl _, by decide, rfl, rfl⟩⟩ (by simp) rfl (fun e => by cases e) HN.out (HB.out.kept ((Below.refl _ _).alloc (Nat.le_refl _) _)) H1.out (by have := HL.out; omega) ?_; intro w' v' hO hb)
    go_ret
    have hg := hb.out.1
    have hb2 : Below w.heap.size w w' := (below_new w _).trans ((Below.refl _ _).grown hg (by simp) (fun g e => by simp [Value.ownBlock] at e; omega))
    have hO2 := hO.out
    rw [List.nil_append, Nat.zero_add] at hO2
    exact ⟨_, rfl, hO2, hb2⟩
set_option maxHeartbeats 1000000 in
theorem clone_i {w : World} {a : Option Addr} {n cap : Nat} {xs : List Value} (hB : ElAt w a xs) (hn : xs.length = n) (h1 : ∀ u ∈ xs, u.oneCell' = true) (hl : n ≤ 65536) :
    Calls Try.prog 27 #[.slice a n cap] w fun e w' => ∃ v, e = .returned v ∧ w'.ownsRow w.heap.size 3 1 v n xs ∧ Below w.heap.size w w' := by
  cases a with
  | none =>
    obtain rfl : xs = [] := by
      cases xs with
      | nil => rfl
      | cons b l => obtain ⟨g, o, e, _⟩ := hB 0 b rfl; cases e
    obtain rfl : n = 0 := hn.symm
    clear hB hn h1 hl
    have HP : Hid (w.ownsRow w.heap.size 3 1 (.slice none 0 0) 0 []) := ⟨rfl, .inl ⟨rfl, rfl⟩⟩
    have he : ∀ w : World, (binOp .eql 26 (.slice none 0 cap) (.slice none 0 0)).run Try.prog w = .ok (.bool true) w := fun _ => rfl
    go_enter Try.func27, Try.ntmps27
    go_wp2
    go_ret
    exact ⟨_, rfl, HP.out, Below.refl _ _⟩
  | some ad =>
    have HB := hid hB
    have HN := hid hn
    have HL := hid hl
    have H1 := hid h1
    obtain ⟨i, i1, i2, i3, i4⟩ := inf3
    have he : ∀ w : World, (binOp .eql 26 (.slice (some ad) n cap) (.slice none 0 0)).run Try.prog w = .ok (.bool false) w := fun _ => rfl
    clear hB hn hl h1
    go_enter Try.func27, Try.ntmps27
    go_wp2_with (at_builtin; refine wpAppend1 Try.underlying26 i1 i2 i3 i4 rfl (by decide) (.tmp 5) (.tmp 6) rfl rfl (base := w.heap.size) (v := .slice (some ⟨w.heap.size, 0, none⟩) 0 0) (old := []) rfl ⟨rfl, .inr ⟨w.heap.size, 0, #[], rfl, Nat.le_refl _, heap_alloc_last w _, Nat.le_refl _, by decide, rfl, rfl⟩⟩ (by simp) rfl (fun e => by cases e) HN.out (HB.out.kept ((Below.refl _ _).alloc (Nat.le_refl _) _)) H1.out (by have := HL.out; omega) ?_; intro w' v' hO hb)
    go_ret
    have hg := hb.out.1
    have hb2 : Below w.heap.size w w' := (below_new w _).trans ((Below.refl _ _).grown hg (by simp) (fun g e => by simp [Value.ownBlock] at e; omega))
    have hO2 := hO.out
    rw [List.nil_append, Nat.zero_add] at hO2
    exact ⟨_, rfl, hO2, hb2⟩
theorem step_store1 {t : TypeId} {o : Oper} {a : Act} {w : World} {K : Act → World → Prop} {Q : Exit → Act → World → Prop} {x y : Operand} {b k : Nat} {av : Option Addr} {n c : Nat} {old : Value} (ht : t = 25 ∨ t = 26) (ho : o.op = .store t x y) (hx : a.eval x = .pointer (some ⟨b, k, none⟩)) (hy : a.eval y = .slice av n c) (hc : w.cell? ⟨b, k, none⟩ = some old) (hf : w.frozen? ⟨b, k, none⟩ = false)
    (h : K (a.put o.dst undef) (w.setCell ⟨b, k, none⟩ (.slice av n c))) : Oper.wp Try.prog o a w K Q := by
  have e : (execOp a.eval o).run Try.prog w = .ok .skip (w.setCell ⟨b, k, none⟩ (.slice av n c)) := by
    generalize a.eval = r at *
    rcases ht with rfl | rfl
    · simp [execOp, ho, hx, hy, hc, hf, go_sem]
    · simp [execOp, ho, hx, hy, hc, hf, go_sem]
  unfold Oper.wp
  rw [e]
  exact h
/-- A link on which nothing was put. -/
def Lk.fresh (r d q : Int) (loss : List Bool) (jit : List Int) (lv jv : Value) : Lk := ⟨r, d, q, loss, jit, 0, 0, 0, 0, 0, 0, 0, [], [], fun _ => [], lv, jv, .slice none 0 0, .slice none 0 0⟩
theorem fresh_ok {r d q : Int} {loss : List Bool} {jit : List Int} {lv jv : Value} (h : fitE r d q loss.length jit = 0) : (Lk.fresh r d q loss jit lv jv).Ok := by
  unfold fitE at h
  by_cases h1 : r < 0 ∨ 1099511627776 < r
  · rw [if_pos h1] at h; omega
  rw [if_neg h1] at h
  by_cases h2 : d < 0 ∨ 1099511627776 < d
  · rw [if_pos h2] at h; omega
  rw [if_neg h2] at h
  by_cases h3 : q < 1 ∨ 1073741824 < q
  · rw [if_pos h3] at h; omega
  rw [if_neg h3] at h
  by_cases h4 : 65536 < loss.length ∨ 65536 < jit.length ∨ jit.any badJ = true
  · rw [if_pos h4] at h; omega
  refine ⟨by show 0 ≤ r; omega, by show r ≤ _; omega, by show 0 ≤ d; omega, by show d ≤ _; omega, by show 1 ≤ q; omega, by show q ≤ _; omega, by show loss.length ≤ _; omega, by show jit.length ≤ _; omega, fun x hx => ?_, Int.le_refl _, (by show (0 : Int) ≤ _; omega), (fun x hx => by cases hx), rfl, (by show (0 : Int) ≤ q; omega), Int.le_refl _, fun s hs => ?_⟩
  · have h5 : badJ x = false := by
      cases hb : badJ x with
      | false => rfl
      | true => exact absurd (List.any_eq_true.2 ⟨x, hx, hb⟩) (fun e => h4 (.inr (.inr e)))
    unfold badJ at h5
    rw [decide_eq_false_iff_not] at h5
    omega
  · have : (0 : Int) ≤ s := hs
    show (0 : Int) ≤ s + 1000000 * sumW (lat s [])
    simp [sumW]
    exact this
theorem fresh_at {w : World} {p : Nat} {r d q : Int} {loss : List Bool} {jit : List Int} {lv jv : Value} (hR : Row w p (Lk.fresh r d q loss jit lv jv).cells 38) (hl : w.ownsRow 0 4 1 lv loss.length (loss.map Value.bool)) (hj : w.ownsRow 0 3 1 jv jit.length (jit.map (Value.int .i64))) : LkAt w p (Lk.fresh r d q loss jit lv jv) :=
  ⟨⟨hR, rfl, ⟨rfl, .inl ⟨rfl, rfl⟩⟩, (fun _ hx => absurd hx (List.not_mem_nil))⟩, ⟨hR, rfl, ⟨rfl, .inl ⟨rfl, rfl⟩⟩, (fun _ hx => absurd hx (List.not_mem_nil))⟩, hl, hj, (fun _ hx => absurd hx (List.not_mem_nil)), List.Pairwise.nil, (fun j _ h => absurd h (Nat.not_lt_zero j)), (fun j _ h => absurd h (Nat.not_lt_zero j))⟩
set_option maxHeartbeats 2000000 in
/-- What may not be. -/
theorem new_no {w : World} {r d q : Int} {la ja : Option Addr} {ln lc jc : Nat} {jit : List Int} (hj : ElAt w ja (jit.map (Value.int .i64))) (hjl : jit.length ≤ 140737488355328) (hll : ln ≤ 140737488355328) (hf : fitE r d q ln jit ≠ 0) :
    Calls Try.prog 15 #[.agg (confC r d q (.slice la ln lc) (.slice ja jit.length jc)).toArray] w fun e w' => e = .returned (.tuple #[.pointer none, .int .i64 (fitE r d q ln jit)]) ∧ Below w.heap.size w w' := by
  have hb1 := below_new w (.cells #[.int .i64 r, .int .i64 d, .int .i64 q, .slice la ln lc, .slice ja jit.length jc] 28)
  have R := Row.new w (confC r d q (.slice la ln lc) (.slice ja jit.length jc)) 28
  have HF := hid (fit_any (r := r) (d := d) (q := q) (la := la) (lc := lc) (jc := jc) (hj.kept hb1) hjl hll)
  have x0 := R.cell 0 _ rfl
  have x1 := R.cell 1 _ rfl
  have x2 := R.cell 2 _ rfl
  have x3 := R.cell 3 _ rfl
  have x4 := R.cell 4 _ rfl
  have HB := hid hb1
  simp only [confC] at *
  generalize fitE r d q ln jit = f at *
  have hf2 : (f == 0) = false := by simpa using hf
  clear hj hjl hll R hb1
  go_enter Try.func15, Try.ntmps15
  go_wp2_with (go_at_call 25; refine HF.out.mono ?_; rintro e w2 ⟨rfl, hb2⟩; have HB2 := hid hb2; clear hb2)
  go_ret2
  exact ⟨rfl, below_two HB.out HB2.out (Nat.le_refl _)⟩
set_option maxHeartbeats 4000000 in
/-- A link. -/
theorem new_ok {w : World} {r d q : Int} {la ja : Option Addr} {lc jc : Nat} {loss : List Bool} {jit : List Int} (hlo : ElAt w la (loss.map Value.bool)) (hj : ElAt w ja (jit.map (Value.int .i64))) (hf : fitE r d q loss.length jit = 0) :
    Calls Try.prog 15 #[.agg (confC r d q (.slice la loss.length lc) (.slice ja jit.length jc)).toArray] w fun e w' => ∃ p lv jv, e = .returned (.tuple #[pt p 0, .int .i64 0]) ∧ LkAt w' p (Lk.fresh r d q loss jit lv jv) ∧ w.heap.size ≤ p ∧ Below w.heap.size w w' := by
  have hok := fresh_ok (lv := .slice none 0 0) (jv := .slice none 0 0) hf
  have hll : loss.length ≤ 65536 := hok.ln
  have hjl : jit.length ≤ 65536 := hok.jn
  have hb1 := below_new w (.cells #[.int .i64 r, .int .i64 d, .int .i64 q, .slice la loss.length lc, .slice ja jit.length jc] 28)
  have R := Row.new w (confC r d q (.slice la loss.length lc) (.slice ja jit.length jc)) 28
  have HF := hid (fit_any (r := r) (d := d) (q := q) (la := la) (lc := lc) (jc := jc) (hj.kept hb1) (by omega) (show loss.length ≤ _ by omega))
  rw [hf] at HF
  have x0 := R.cell 0 _ rfl
  have x1 := R.cell 1 _ rfl
  have x2 := R.cell 2 _ rfl
  have x3 := R.cell 3 _ rfl
  have x4 := R.cell 4 _ rfl
  have HB := hid hb1
  have HLO := hid (hlo.kept hb1)
  have HJI := hid (hj.kept hb1)
  have HR := hid R
  simp only [confC] at *
  clear hj hlo R hb1 hok
  go_enter Try.func15, Try.ntmps15
  go_upto_region 1 with fail
  revert HF x0 x1 x2 x3 x4 HB HLO HJI HR
  generalize w.alloc (.cells #[.int .i64 r, .int .i64 d, .int .i64 q, .slice la loss.length lc, .slice ja jit.length jc] 28) = w1
  intro HF x0 x1 x2 x3 x4 HB HLO HJI HR
  obtain ⟨b, hb⟩ : ∃ b, w.heap.size = b := ⟨_, rfl⟩
  rw [hb] at x0 x1 x2 x3 x4 HR ⊢
  have HBB := hid hb
  clear hb
  go_upto_region 4 with (go_at_call 25; refine HF.out.mono ?_; rintro e w2 ⟨rfl, hb2⟩; have HB2 := hid hb2; clear hb2)
  have y0 := cell_kept HB2.out x0
  have y1 := cell_kept HB2.out x1
  have y2 := cell_kept HB2.out x2
  have y3 := cell_kept HB2.out x3
  have y4 := cell_kept HB2.out x4
  have HL2 := hid (HLO.out.kept HB2.out)
  have HJ2 := hid (HJI.out.kept HB2.out)
  have HR2 := hid (HR.out.kept HB2.out HR.out.lt)
  have HBA := hid (below_two HB.out HB2.out (Nat.le_refl _))
  clear x0 x1 x2 x3 x4 HLO HJI HR HB HB2 HF
  have HC1 : Hid (∀ w', Below w2.heap.size w2 w' → Calls Try.prog 26 #[.slice la loss.length lc] w' fun e w3 => ∃ v, e = .returned v ∧ (w3.ownsRow w'.heap.size 4 1 v loss.length (loss.map Value.bool) ∧ Below w'.heap.size w' w3)) := fun w' hb => clone_b (HL2.out.kept hb) (by simp) (by intro u hu; obtain ⟨x, _, rfl⟩ := List.mem_map.1 hu; rfl) hll
  have HC2 : Hid (∀ w', Below w2.heap.size w2 w' → Calls Try.prog 27 #[.slice ja jit.length jc] w' fun e w3 => ∃ v, e = .returned v ∧ (w3.ownsRow w'.heap.size 3 1 v jit.length (jit.map (Value.int .i64)) ∧ Below w'.heap.size w' w3)) := fun w' hb => clone_i (HJ2.out.kept hb) (by simp) (by intro u hu; obtain ⟨x, _, rfl⟩ := List.mem_map.1 hu; rfl) hjl
  refine wp_region_some (fun w' => w'.cell? ⟨b, 3, none⟩ = some (.slice la loss.length lc) ∧ w'.cell? ⟨b, 4, none⟩ = some (.slice ja jit.length jc)) [7, 9] (by kernel_rfl) ?_
  have hHeld := (show (fun w' => w'.cell? ⟨b, 3, none⟩ = some (.slice la loss.length lc) ∧ w'.cell? ⟨b, 4, none⟩ = some (.slice ja jit.length jc)) w2.drew from ⟨y3, y4⟩)
  refine wpAnyG_take' (i := 0) (oi := { dst := some 10, op := Go.Op.fieldAddr 28 (Go.Operand.tmp 1) 3, type := 0, pos := "link.go:25", after := #[], guard := none }) (v := ?v1_0) rfl (by kernel_rfl) (by kernel_rfl) (by kernel_rfl) (fun _ _ _ h => h) (Or.inl ⟨by kernel_rfl, ?h1_0⟩) ?r1_0
  case h1_0 => (intro wt hSw; clear hSw; go_simp; try with_reducible rfl)
  simp only [Act.put, List.setIfInBounds_toArray, List.set_cons_zero, List.set_cons_succ]
  refine wpAnyG_take (i := 1) (oi := { dst := some 11, op := Go.Op.load 25 (Go.Operand.tmp 10), type := 25, pos := "link.go:25", after := #[{ on := 0, ground := Go.Ground.data }], guard := none }) (v := ?v1_1) (by kernel_rfl) rfl (by kernel_rfl) (by kernel_rfl) (by kernel_rfl) (by kernel_rfl) (fun _ _ _ h => h) (Or.inl ⟨by kernel_rfl, ?h1_1⟩) (by assumption) ?r1_1
  case h1_1 => (intro wt hSw; (try dsimp only at hSw); obtain ⟨s0, s1⟩ := hSw; go_simp; try rfl)
  simp only [Act.put, List.setIfInBounds_toArray, List.set_cons_zero, List.set_cons_succ]
  refine wpAnyG_take' (i := 3) (oi := { dst := some 13, op := Go.Op.fieldAddr 28 (Go.Operand.tmp 1) 4, type := 0, pos := "link.go:25", after := #[], guard := none }) (v := ?v1_3) rfl (by kernel_rfl) (by kernel_rfl) (by kernel_rfl) (fun _ _ _ h => h) (Or.inl ⟨by kernel_rfl, ?h1_3⟩) ?r1_3
  case h1_3 => (intro wt hSw; clear hSw; go_simp; try with_reducible rfl)
  simp only [Act.put, List.setIfInBounds_toArray, List.set_cons_zero, List.set_cons_succ]
  refine wpAnyG_take (i := 4) (oi := { dst := some 14, op := Go.Op.load 26 (Go.Operand.tmp 13), type := 26, pos := "link.go:25", after := #[{ on := 3, ground := Go.Ground.data }], guard := none }) (v := ?v1_4) (by kernel_rfl) rfl (by kernel_rfl) (by kernel_rfl) (by kernel_rfl) (by kernel_rfl) (fun _ _ _ h => h) (Or.inl ⟨by kernel_rfl, ?h1_4⟩) (by assumption) ?r1_4
  case h1_4 => (intro wt hSw; (try dsimp only at hSw); obtain ⟨s0, s1⟩ := hSw; go_simp; try rfl)
  simp only [Act.put, List.setIfInBounds_toArray, List.set_cons_zero, List.set_cons_succ]
  refine wpAnyG_one (i := 2) (o := { dst := some 12, op := Go.Op.call { callee := Go.Callee.value (Go.Operand.func 26), args := #[Go.Operand.tmp 11], argTypes := #[25] }, type := 25, pos := "link.go:25", after := #[{ on := 1, ground := Go.Ground.data }], guard := none }) rfl (by kernel_rfl) (by kernel_rfl) ?_
  refine step_callxi (f := 26) (args := #[.slice la loss.length lc]) (by first | kernel_rfl | go_simp) (HC1.out _ (below_drewN (Below.refl _ _) 1)) ?_
  rintro v3 w3 ⟨hO3, hB3⟩
  have hHeld3 := (show (fun w' => w'.cell? ⟨b, 3, none⟩ = some (.slice la loss.length lc) ∧ w'.cell? ⟨b, 4, none⟩ = some (.slice ja jit.length jc)) w3 from ⟨cell_kept hB3 hHeld.1, cell_kept hB3 hHeld.2⟩)
  have hBB3 : Below w2.heap.size w2 w3 := below_two (below_drewN (Below.refl _ _) 1) hB3 (Nat.le_refl _)
  obtain ⟨a3, c3, rfl, -⟩ := own1 hO3
  refine ⟨fun _ _ => hHeld3, ?_⟩
  simp only [Act.put, List.setIfInBounds_toArray, List.set_cons_zero, List.set_cons_succ]
  refine wpAnyG_take' (i := 6) (oi := { dst := some 16, op := Go.Op.fieldAddr 28 (Go.Operand.tmp 1) 3, type := 0, pos := "link.go:25", after := #[{ on := 0, ground := Go.Ground.phase }, { on := 1, ground := Go.Ground.phase }, { on := 2, ground := Go.Ground.phase }, { on := 3, ground := Go.Ground.phase }, { on := 4, ground := Go.Ground.phase }, { on := 5, ground := Go.Ground.textOnly Go.Departure.lateStoresUnsure }], guard := none }) (v := ?v1_6) rfl (by kernel_rfl) (by kernel_rfl) (by kernel_rfl) (fun _ _ _ h => h) (Or.inl ⟨by kernel_rfl, ?h1_6⟩) ?r1_6
  case h1_6 => (intro wt hSw; clear hSw; go_simp; try with_reducible rfl)
  simp only [Act.put, List.setIfInBounds_toArray, List.set_cons_zero, List.set_cons_succ]
  refine wpAnyG_one (i := 5) (o := { dst := some 15, op := Go.Op.call { callee := Go.Callee.value (Go.Operand.func 27), args := #[Go.Operand.tmp 14], argTypes := #[26] }, type := 26, pos := "link.go:25", after := #[{ on := 4, ground := Go.Ground.data }, { on := 2, ground := Go.Ground.chain }], guard := none }) rfl (by kernel_rfl) (by kernel_rfl) ?_
  refine step_callxi (f := 27) (args := #[.slice ja jit.length jc]) (by first | kernel_rfl | go_simp) (HC2.out _ hBB3) ?_
  rintro v4 w4 ⟨hO4, hB4⟩
  have hHeld4 := (show (fun w' => w'.cell? ⟨b, 3, none⟩ = some (.slice la loss.length lc) ∧ w'.cell? ⟨b, 4, none⟩ = some (.slice ja jit.length jc)) w4 from ⟨cell_kept hB4 hHeld3.1, cell_kept hB4 hHeld3.2⟩)
  obtain ⟨a4, c4, rfl, -⟩ := own1 hO4
  have hBB4 : Below w2.heap.size w2 w4 := below_two hBB3 hB4 (Nat.le_refl _)
  have HR4 := hid (HR2.out.kept hBB4 HR2.out.lt)
  have HO3 := hid (own_less (own_below hO3 hB4) (Nat.zero_le _))
  have HO4 := hid (own_less hO4 (Nat.zero_le _))
  have HG3 := hid (fun g e => Nat.le_trans hBB3.size (Nat.le_refl _) : ∀ g : Nat, (Value.slice a3 loss.length c3).ownBlock = some g → w2.heap.size ≤ w3.heap.size)
  have q3 := HR4.out.cell 3 _ rfl
  have f3 := HR4.out.frozen 3
  have HR5 := hid (HR4.out.set 3 (.slice a3 loss.length c3))
  have q4 := HR5.out.cell 4 _ rfl
  have f4 := HR5.out.frozen 4
  refine ⟨fun _ _ => hHeld4, ?_⟩
  simp only [Act.put, List.setIfInBounds_toArray, List.set_cons_zero, List.set_cons_succ]
  refine wpAnyG_one (i := 7) (o := { dst := none, op := Go.Op.store 25 (Go.Operand.tmp 16) (Go.Operand.tmp 12), type := 0, pos := "link.go:25", after := #[{ on := 6, ground := Go.Ground.data }, { on := 2, ground := Go.Ground.data }, { on := 5, ground := Go.Ground.chain }, { on := 0, ground := Go.Ground.phase }, { on := 1, ground := Go.Ground.phase }, { on := 2, ground := Go.Ground.phase }, { on := 3, ground := Go.Ground.phase }, { on := 4, ground := Go.Ground.phase }, { on := 5, ground := Go.Ground.textOnly Go.Departure.lateStoresUnsure }], guard := none }) rfl (by kernel_rfl) (by kernel_rfl) ?_
  refine step_store1 (t := 25) (b := b) (k := 3) (av := a3) (n := loss.length) (c := c3) (.inl rfl) rfl rfl rfl q3 f3 ?_
  refine ⟨fun h => absurd (by simp) h, ?_⟩
  simp only [Act.put]
  refine wpAnyG_take' (i := 8) (oi := { dst := some 17, op := Go.Op.fieldAddr 28 (Go.Operand.tmp 1) 4, type := 0, pos := "link.go:25", after := #[{ on := 0, ground := Go.Ground.phase }, { on := 1, ground := Go.Ground.phase }, { on := 2, ground := Go.Ground.phase }, { on := 3, ground := Go.Ground.phase }, { on := 4, ground := Go.Ground.phase }, { on := 5, ground := Go.Ground.phase }, { on := 6, ground := Go.Ground.phase }, { on := 7, ground := Go.Ground.phase }], guard := none }) (v := ?v1_8) rfl (by kernel_rfl) (by kernel_rfl) (by kernel_rfl) (fun _ _ _ h => h) (Or.inl ⟨by kernel_rfl, ?h1_8⟩) ?r1_8
  case h1_8 => (intro wt hSw; clear hSw; go_simp; try with_reducible rfl)
  simp only [Act.put, List.setIfInBounds_toArray, List.set_cons_zero, List.set_cons_succ]
  refine wpAnyG_one (i := 9) (o := { dst := none, op := Go.Op.store 26 (Go.Operand.tmp 17) (Go.Operand.tmp 15), type := 0, pos := "link.go:25", after := #[{ on := 8, ground := Go.Ground.data }, { on := 5, ground := Go.Ground.data }, { on := 7, ground := Go.Ground.chain }, { on := 0, ground := Go.Ground.phase }, { on := 1, ground := Go.Ground.phase }, { on := 2, ground := Go.Ground.phase }, { on := 3, ground := Go.Ground.phase }, { on := 4, ground := Go.Ground.phase }, { on := 5, ground := Go.Ground.phase }, { on := 6, ground := Go.Ground.phase }, { on := 7, ground := Go.Ground.phase }], guard := none }) rfl (by kernel_rfl) (by kernel_rfl) ?_
  refine step_store1 (t := 26) (b := b) (k := 4) (av := a4) (n := jit.length) (c := c4) (.inr rfl) rfl rfl rfl q4 f4 ?_
  refine ⟨fun h => absurd (by simp) h, ?_⟩
  simp only [Act.put]
  refine wpAnyG_done (by kernel_rfl) ?_ _
  have HR6 := hid (HR5.out.set 4 (.slice a4 jit.length c4))
  have hF6 : Fr (fun k => k = b) w4 ((w4.setCell ⟨b, 3, none⟩ (.slice a3 loss.length c3)).setCell ⟨b, 4, none⟩ (.slice a4 jit.length c4)) := ((Fr.refl (fun k => k = b) w4).setCell b 3 _ (.inl rfl)).setCell b 4 _ (.inl rfl)
  have HO6 := hid (hF6.own HO3.out (fun g e e' => own_row HO3.out HR4.out (by decide) (e' ▸ e)))
  have HO7 := hid (hF6.own HO4.out (fun g e e' => own_row HO4.out HR4.out (by decide) (e' ▸ e)))
  have hBA4 : Below w.heap.size w w4 := below_two HBA.out hBB4 (Nat.le_refl _)
  have HB6 := hid (hBA4.trans (hF6.below (fun x e => by have := HBB.out; omega) hBA4.size))
  clear hBA4 hF6 HO3 HO4 hBB3 hBB4 HBA HR4 HR5 HR2 q3 q4 f3 f4 hHeld hHeld3 hHeld4 hO3 hO4 hB3 hB4 HC1 HC2 HL2 HJ2 HG3 y0 y1 y2 y3 y4
  revert HR6 HO6 HO7 HB6
  generalize (w4.setCell ⟨b, 3, none⟩ (.slice a3 loss.length c3)).setCell ⟨b, 4, none⟩ (.slice a4 jit.length c4) = w6
  intro HR6 HO6 HO7 HB6
  have z0 := HR6.out.cell 0 _ rfl
  have z1 := HR6.out.cell 1 _ rfl
  have z2 := HR6.out.cell 2 _ rfl
  have z3 := HR6.out.cell 3 _ rfl
  have z4 := HR6.out.cell 4 _ rfl
  have hba := hid (below_new w6 (.cells (Lk.fresh r d q loss jit (.slice a3 loss.length c3) (.slice a4 jit.length c4)).cells.toArray 38))
  have HRL := hid (Row.new w6 (Lk.fresh r d q loss jit (.slice a3 loss.length c3) (.slice a4 jit.length c4)).cells 38)
  have HEND := hid (fresh_at HRL.out (own_below HO6.out hba.out) (own_below HO7.out hba.out))
  have HS6 := hid HB6.out.size
  have HBE := hid (HB6.out.trans (hba.out.mono HB6.out.size))
  clear HRL hba HO6 HO7 HR6 HB6 w1
  go_wp2_with fail
  go_ret2
  exact ⟨w6.heap.size, _, _, rfl, HEND.out, HS6.out, HBE.out⟩
end Go.Proofs.Ytoeldomhkeancaa
