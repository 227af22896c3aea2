import Derived.Test.YtfhjiggaacgncaaDoorJg3
import Derived.Test.YtfhjiggaacgncaaDoorJr3
namespace Go.Proofs.YtfhjiggaacgncaaDoor
open Go.RowKit Go.Maps Go.Sort
set_option maxRecDepth 100000

theorem step_val {P : Program} {o : Oper} {a : Act} {w w' : World} {v : Value} {K : Act → World → Prop} {Q : Exit → Act → World → Prop} (e : (execOp a.eval o).run P w = .ok (.value v) w') (h : K (a.put o.dst v) w') : Oper.wp P o a w K Q := by
  unfold Oper.wp
  rw [e]
  exact h
structure Dk.Good (D : Dk) : Prop where
  ok : D.Ok
  pos : ∀ x ∈ D.W, 1 ≤ x.bs.length
  few : D.W.length ≤ 1000000000000
  now : D.N = layAll D.S D.W
theorem anyN_no {l : List (BitVec 8)} (h : anyN l = false) : l = z l.length := by
  unfold z
  rw [List.eq_replicate_iff]
  refine ⟨rfl, fun x hx => ?_⟩
  have := List.any_eq_false.1 h x hx
  simpa using this
/-- What a disk holds behind an Open: nothing behind the place e. -/
def cleanL (N : List (BitVec 8)) (e : Nat) : List (BitVec 8) := N.take e ++ z (N.length - e)
theorem cleanL_lay {N : List (BitVec 8)} {e : Nat} (h : e ≤ N.length) : lay N e (z (N.length - e)) = cleanL N e := by
  unfold lay cleanL
  rw [z_len, List.drop_of_length_le (by omega), List.append_nil]
theorem cleanL_no {N : List (BitVec 8)} {e : Nat} (h : anyN (N.drop e) = false) : cleanL N e = N := by
  have := anyN_no h
  unfold cleanL
  rw [List.length_drop] at this
  rw [← this, List.take_append_drop]
structure Cln (w w' : World) (q : Nat) (D : Dk) (G : Lg) (D' : Dk) : Prop where
  at_ : JL w' q D' G
  fr : Fr (D.Mem G.p) w w'
  sub : ∀ x, D'.Mem G.p x → D.Mem G.p x
  dS : D'.S = cleanL D.N G.end_
  dN : D'.N = cleanL D.N G.end_
  dW : D'.W = []
  dl : D'.lives = D.lives
theorem cln_of {w w1 w2 : World} {q : Nat} {D D1 : Dk} {G : Lg} (h : JL w q D G) (hF1 : Fr (D.Mem G.p) w w1) (hgs : D1.gs = D.gs) (hgn : D1.gn = D.gn) (hcs : D1.lives = D.lives) (hS : layAll D1.S D1.W = cleanL D.N G.end_) (hN : D1.N = cleanL D.N G.end_) (hD : DkAt w2 G.p (D1.calm (layAll D1.S D1.W) D1.N)) (hF2 : Fr (fun k => k = G.p ∨ k = D1.gs) w1 w2) :
    Cln w w2 q D G (D1.calm (layAll D1.S D1.W) D1.N) := by
  have hsub : ∀ x, (D1.calm (layAll D1.S D1.W) D1.N).Mem G.p x → D.Mem G.p x := by
    rintro x (rfl | rfl | rfl | e | ⟨y, hy, _⟩)
    · exact .inl rfl
    · exact .inr (.inl (by show D1.gs = _; exact hgs))
    · exact .inr (.inr (.inl (by show D1.gn = _; exact hgn)))
    · simp [Dk.calm, Value.ownBlock] at e
    · cases hy
  have hF : Fr (D.Mem G.p) w w2 := hF1.trans hF2 (fun x e => .inl (by rcases e with rfl | rfl; exact .inl rfl; exact .inr (.inl hgs)))
  exact ⟨⟨hD, h.lg.fr hF (fun x hx => h.ap x hx), fun x hx e => h.ap x hx (hsub x e)⟩, hF, hsub, hS, hN, rfl, hcs⟩
set_option maxHeartbeats 30000000 in
theorem clean_any {w : World} {q : Nat} {D : Dk} {G : Lg} (h : JL w q D G) (hg : D.Good) (he : G.end_ ≤ D.N.length) :
    Calls Tryd.prog 62 #[pt q 0] w fun e w' => e = .returned (.tuple #[]) ∧ ∃ D', Cln w w' q D G D' := by
  have hlen := hg.ok.len
  have hs2 := hg.ok.s2
  obtain ⟨na, nc, en, hBn, hn1, hn2, _⟩ := ownBy_shape h.dk.now
  have en' : na = some ⟨D.gn, 0, none⟩ ∧ nc = D.cn := by unfold Dk.nv at en; injection en with e1 e2 e3; exact ⟨e1.symm, e3.symm⟩
  obtain ⟨rfl, rfl⟩ := en'
  have g0 := h.lg.row.cell 0 _ rfl
  have g3 := h.lg.row.cell 3 _ rfl
  have HV : Hid (∀ n, Calls Tryd.prog 98 #[pt G.p 0] (w.drewN n) fun e w' => e = .returned (.slice (some ⟨D.gn, 0, none⟩) D.N.length D.cn) ∧ w' = w.drewN n) := fun n => view_any (h.dk.kept (below_drewN (Below.refl _ _) n))
  have hmv := m_view
  have hms := m_sync
  have hmp := m_put
  have hsub := hBn.sub G.end_ (D.N.length - G.end_)
  rw [Nat.zero_add] at hsub
  have hdl : ((D.N.drop G.end_).take (D.N.length - G.end_)) = D.N.drop G.end_ := List.take_of_length_le (by simp)
  rw [hdl] at hsub
  have hdn : (D.N.drop G.end_).length = D.N.length - G.end_ := List.length_drop
  have HSY : Hid (∀ w1 D1, DkAt w1 G.p D1 → D1.Ok → (∀ x ∈ D1.W, 1 ≤ x.bs.length) → D1.W.length ≤ 1099511627776 → Calls Tryd.prog 21 #[pt G.p 0] w1 fun e w' => e = .returned (.tuple #[]) ∧ DkAt w' G.p (D1.calm (layAll D1.S D1.W) D1.N) ∧ Fr (fun k => k = G.p ∨ k = D1.gs) w1 w') := fun w1 D1 => dsync_any
  have HJ := hid h
  have HG := hid hg
  unfold maxLen at hn2
  have i1 : (G.end_ : Int) ≤ D.N.length := by omega
  have i2 : (D.N.length : Int) ≤ D.cn := by omega
  have i3 : (D.cn : Int) ≤ 9223372036854775807 := by omega
  cases hany : anyN (D.N.drop G.end_) with
  | false =>
    have HX := hid (cleanL_no hany)
    have HEND : Hid (∀ n, Calls Tryd.prog 21 #[pt G.p 0] (w.drewN n) fun e w' => e = .returned (.tuple #[]) ∧ ∃ D', Cln w w' q D G D') := fun n => by
      refine (HSY.out (w.drewN n) D (HJ.out.dk.kept (below_drewN (Below.refl _ _) n)) HG.out.ok HG.out.pos (by have := HG.out.few; omega)).mono ?_
      rintro e w' ⟨rfl, h1, h2⟩
      exact ⟨rfl, _, cln_of (w1 := w.drewN n) HJ.out ((Fr.refl _ _).drewN n) rfl rfl rfl (by rw [HX.out, HG.out.now]) HX.out.symm h1 h2⟩
    by_cases hcn : D.cn = G.end_
    · have hC : ∀ n a, Calls Tryd.prog 73 #[.slice a 0 0, .func (.func 74) #[] #[]] (w.drewN n) fun e w' => e = .returned (.bool false) ∧ w' = w.drewN n := fun n a => contains_any (w := w.drewN n) (a := a) (l := []) (L := 0) (cap := 0) (BytesAt_nil _ _) rfl (by omega)
      have HC := hid hC
      have hLe : D.N.length = G.end_ := by omega
      rw [hLe, hcn] at HV
      have i4 : (G.end_ : Int) ≤ 16777216 := by omega
      clear h hg hlen hs2 en hBn hn1 hn2 hsub hdl hdn hC hany HX HSY HJ HG hmp he i1 i2 i3 hLe hcn
      generalize D.gn = gn at *
      generalize G.end_ = en at *
      go_enter Tryd.func62, Tryd.ntmps62
      go_upto_region 0 with fail
      go_quiet ((go_at_call 98; exact Calls.quiet_of_same (HV.out _)))
      go_wp2_with (first | (go_at_call 73; refine (HC.out _ _).mono ?_; rintro e w1 ⟨rfl, rfl⟩) | (go_at_call 21; refine (HEND.out _).mono ?_; rintro e w2 ⟨rfl, hZ⟩; have HZ := hid hZ; clear hZ))
      refine bodyPost_end (results_none Tryd.results62 _ _ _) rfl ?_
      exact ⟨rfl, HZ.out⟩
    · have hC : ∀ n, Calls Tryd.prog 73 #[.slice (some ⟨D.gn, G.end_, none⟩) (D.N.length - G.end_) (D.cn - G.end_), .func (.func 74) #[] #[]] (w.drewN n) fun e w' => e = .returned (.bool false) ∧ w' = w.drewN n := fun n => by
        have := contains_any (w := w.drewN n) (L := D.N.length - G.end_) (cap := D.cn - G.end_) (hsub.kept (below_drewN (Below.refl _ _) n)) hdn (by omega)
        rw [hany] at this
        exact this
      have HC := hid hC
      clear h hg hlen hs2 en hBn hn1 hn2 hsub hdl hdn hC hany HX HSY HJ HG hmp he
      generalize D.N.length = L at *
      generalize D.cn = cn at *
      generalize D.gn = gn at *
      generalize G.end_ = en at *
      go_enter Tryd.func62, Tryd.ntmps62
      go_upto_region 0 with fail
      go_quiet ((go_at_call 98; exact Calls.quiet_of_same (HV.out _)))
      go_wp2_with (first | (go_at_call 73; refine (HC.out _).mono ?_; rintro e w1 ⟨rfl, rfl⟩) | (go_at_call 21; refine (HEND.out _).mono ?_; rintro e w2 ⟨rfl, hZ⟩; have HZ := hid hZ; clear hZ))
      refine bodyPost_end (results_none Tryd.results62 _ _ _) rfl ?_
      exact ⟨rfl, HZ.out⟩
  | true =>
    have hlt : G.end_ < D.N.length := by
      rcases Nat.lt_or_ge G.end_ D.N.length with e | e
      · exact e
      · rw [List.drop_of_length_le e] at hany
        cases hany
    have hcn : ¬ D.cn = G.end_ := by omega
    have hC : ∀ n, Calls Tryd.prog 73 #[.slice (some ⟨D.gn, G.end_, none⟩) (D.N.length - G.end_) (D.cn - G.end_), .func (.func 74) #[] #[]] (w.drewN n) fun e w' => e = .returned (.bool true) ∧ w' = w.drewN n := fun n => by
      have := contains_any (w := w.drewN n) (L := D.N.length - G.end_) (cap := D.cn - G.end_) (hsub.kept (below_drewN (Below.refl _ _) n)) hdn (by omega)
      rw [hany] at this
      exact this
    have HC := hid hC
    obtain ⟨m, hm⟩ : ∃ m, D.N.length - G.end_ = m := ⟨_, rfl⟩
    have HMK : Hid (∀ w : World, (Instr.makeSlice 30 (.int .i64 (m : Int)) (.int .i64 (m : Int))).run Tryd.prog w = .ok (.slice (some ⟨w.heap.size, 0, none⟩) m m) (w.alloc (.cells (bcells (z m)).toArray 5))) := fun w => make_run w m (by omega)
    have HPT : Hid (∀ w1, Below w.heap.size w w1 → Calls Tryd.prog 66 #[pt G.p 0, .int .i64 (G.end_ : Nat), .slice (some ⟨w1.heap.size, 0, none⟩) m m] (w1.alloc (.cells (bcells (z m)).toArray 5)) fun e w' => ∃ v0, e = .returned v0 ∧ (v0 = .tuple #[] ∧ w'.cell? ⟨q, 0, none⟩ = some (.iface 22 (.pointer (some ⟨G.p, 0, none⟩))) ∧ Calls Tryd.prog 21 #[pt G.p 0] w' fun e w2 => e = .returned (.tuple #[]) ∧ ∃ D', Cln w w2 q D G D')) := fun w1 hb1 => by
      have hbm := below_new w1 (.cells (bcells (z m)).toArray 5)
      have hb2 : Below w.heap.size w (w1.alloc (.cells (bcells (z m)).toArray 5)) := below_two hb1 hbm (Nat.le_refl _)
      have hj := HJ.out.kept hb2
      have ho := own_made w1 m (by omega) 0 (Nat.zero_le _)
      have hgsl : D.gs < w.heap.size := HJ.out.dk.lt (.inr (.inl rfl))
      have hgnl : D.gn < w.heap.size := HJ.out.dk.lt (.inr (.inr (.inl rfl)))
      have hs1 := hb1.size
      refine (put_any hj.dk HG.out.ok (by have := HG.out.few; omega) (at_ := G.end_) ho (fun e => by simp [Value.ownBlock] at e; omega) (fun e => by simp [Value.ownBlock] at e; omega) (by rw [z_len]; omega) (by rw [z_len]; omega)).mono ?_
      rintro e w' ⟨rfl, wv', h1, h2, h3⟩
      have hF1 : Fr (D.Mem G.p) w w' := (Fr.of_below (S := D.Mem G.p) hb2 (Nat.le_refl _)).trans h2 (fun x e => .inl (by
        rcases e with rfl | rfl | e
        · exact .inl rfl
        · exact .inr (.inr (.inl rfl))
        · exact .inr (.inr (.inr (.inl e)))))
      refine ⟨_, rfl, rfl, hF1.cell (HJ.out.lg.row.cell 0 _ rfl) (fun e => HJ.out.ap q (.inl rfl) e), ?_⟩
      have hlayS : layAll D.S (D.W ++ [(⟨G.end_, .slice (some ⟨w1.heap.size, 0, none⟩) m m, z m⟩ : Wr)]) = cleanL D.N G.end_ := by
        rw [layAll_app, ← HG.out.now, ← cleanL_lay (by omega), hm]
        rfl
      have hlayN : lay D.N G.end_ (z m) = cleanL D.N G.end_ := by rw [← hm]; exact cleanL_lay (by omega)
      refine (HSY.out w' _ h1 ⟨?_, HG.out.ok.s1, HG.out.ok.s2, ?_⟩ ?_ ?_).mono ?_
      · show (lay D.N G.end_ (z m)).length = _
        rw [lay_len (by rw [z_len]; omega)]
        exact hlen
      · intro x hx
        rcases List.mem_append.1 (show x ∈ D.W ++ [(⟨G.end_, .slice (some ⟨w1.heap.size, 0, none⟩) m m, z m⟩ : Wr)] from hx) with hx | hx
        · exact HG.out.ok.fit x hx
        · simp at hx
          subst hx
          show G.end_ + (z m).length ≤ D.S.length
          rw [z_len]; omega
      · intro x hx
        rcases List.mem_append.1 (show x ∈ D.W ++ [(⟨G.end_, .slice (some ⟨w1.heap.size, 0, none⟩) m m, z m⟩ : Wr)] from hx) with hx | hx
        · exact HG.out.pos x hx
        · simp at hx
          subst hx
          show 1 ≤ (z m).length
          rw [z_len]; omega
      · show (D.W ++ [(⟨G.end_, .slice (some ⟨w1.heap.size, 0, none⟩) m m, z m⟩ : Wr)]).length ≤ _
        have := HG.out.few
        simp
        omega
      · rintro e w2 ⟨rfl, h4, h5⟩
        exact ⟨rfl, _, cln_of (D1 := D.put G.end_ (.slice (some ⟨w1.heap.size, 0, none⟩) m m) (z m) wv') HJ.out hF1 rfl rfl rfl hlayS hlayN h4 h5⟩
    rw [hm] at HC
    have hmi : D.N.length - G.end_ = m := hm
    have hm0 : (0 : Int) ≤ m := by omega
    generalize (bcells (z m)).toArray = arr at *
    clear h hg hlen hs2 en hBn hn1 hn2 hsub hdl hdn hC hany HSY HJ HG he hlt
    generalize D.N.length = L at *
    generalize D.cn = cn at *
    generalize D.gn = gn at *
    generalize G.end_ = en at *
    have hmk := HMK.out
    go_enter Tryd.func62, Tryd.ntmps62
    go_upto_region 0 with fail
    go_quiet ((go_at_call 98; exact Calls.quiet_of_same (HV.out _)))
    go_upto_region 2 with (go_at_call 73; refine (HC.out _).mono ?_; rintro e w1 ⟨rfl, rfl⟩)
    refine wp_region_last (S := fun w' => Hid (Below w.heap.size w w') ∧ w'.cell? ⟨q, 0, none⟩ = some (.iface 22 (.pointer (some ⟨G.p, 0, none⟩))) ∧ w'.cell? ⟨q, 3, none⟩ = some (.int .i64 (en : Nat))) (N := 13) (by kernel_rfl) (by kernel_rfl) fun hNW => ?_
    have hBb : Below w.heap.size w (w.drewN nq).drew := below_drewN (below_drewN (Below.refl _ _) nq) 1
    have hHeld := (show (fun w' => Hid (Below w.heap.size w w') ∧ w'.cell? ⟨q, 0, none⟩ = some (.iface 22 (.pointer (some ⟨G.p, 0, none⟩))) ∧ w'.cell? ⟨q, 3, none⟩ = some (.int .i64 (en : Nat))) (w.drewN nq).drew from ⟨hBb, g0, g3⟩)
    refine wpAnyF_take (i := 0) (oi := { dst := some 15, op := Go.Op.move (Go.Operand.tmp 0), type := 26, pos := "journal.go:55", after := #[], guard := none }) (v := ?v1_0) hNW (by decide) rfl (by kernel_rfl) (by kernel_rfl) (by kernel_rfl) (by kernel_rfl) (fun _ _ _ h => h) (Or.inl ⟨by kernel_rfl, ?h1_0⟩) (by assumption) ?r1_0
    case h1_0 => (intro wt hSw; obtain ⟨-, hs0, hs1⟩ := hSw; go_simp; try with_reducible rfl)
    simp only [Act.put, List.setIfInBounds_toArray, List.set_cons_zero, List.set_cons_succ]
    refine wpAnyF_take (i := 1) (oi := { dst := some 16, op := Go.Op.nilCheck (Go.Operand.tmp 15), type := 0, pos := "journal.go:55", after := #[{ on := 0, ground := Go.Ground.data }], guard := none }) (v := ?v1_1) hNW (by decide) rfl (by kernel_rfl) (by kernel_rfl) (by kernel_rfl) (by kernel_rfl) (fun _ _ _ h => h) (Or.inl ⟨by kernel_rfl, ?h1_1⟩) (by assumption) ?r1_1
    case h1_1 => (intro wt hSw; obtain ⟨-, hs0, hs1⟩ := hSw; go_simp; try with_reducible rfl)
    simp only [Act.put, List.setIfInBounds_toArray, List.set_cons_zero, List.set_cons_succ]
    refine wpAnyF_take (i := 2) (oi := { dst := some 17, op := Go.Op.fieldAddr 83 (Go.Operand.tmp 16) 0, type := 0, pos := "journal.go:55", after := #[{ on := 1, ground := Go.Ground.data }], guard := none }) (v := ?v1_2) hNW (by decide) rfl (by kernel_rfl) (by kernel_rfl) (by kernel_rfl) (by kernel_rfl) (fun _ _ _ h => h) (Or.inl ⟨by kernel_rfl, ?h1_2⟩) (by assumption) ?r1_2
    case h1_2 => (intro wt hSw; obtain ⟨-, hs0, hs1⟩ := hSw; go_simp; try with_reducible rfl)
    simp only [Act.put, List.setIfInBounds_toArray, List.set_cons_zero, List.set_cons_succ]
    refine wpAnyF_take (i := 3) (oi := { dst := some 18, op := Go.Op.load 81 (Go.Operand.tmp 17), type := 81, pos := "journal.go:55", after := #[{ on := 2, ground := Go.Ground.data }], guard := none }) (v := ?v1_3) hNW (by decide) rfl (by kernel_rfl) (by kernel_rfl) (by kernel_rfl) (by kernel_rfl) (fun _ _ _ h => h) (Or.inl ⟨by kernel_rfl, ?h1_3⟩) (by assumption) ?r1_3
    case h1_3 => (intro wt hSw; obtain ⟨-, hs0, hs1⟩ := hSw; go_simp; try with_reducible rfl)
    simp only [Act.put, List.setIfInBounds_toArray, List.set_cons_zero, List.set_cons_succ]
    refine wpAnyF_take (i := 4) (oi := { dst := some 19, op := Go.Op.move (Go.Operand.tmp 0), type := 26, pos := "journal.go:55", after := #[], guard := none }) (v := ?v1_4) hNW (by decide) rfl (by kernel_rfl) (by kernel_rfl) (by kernel_rfl) (by kernel_rfl) (fun _ _ _ h => h) (Or.inl ⟨by kernel_rfl, ?h1_4⟩) (by assumption) ?r1_4
    case h1_4 => (intro wt hSw; obtain ⟨-, hs0, hs1⟩ := hSw; go_simp; try with_reducible rfl)
    simp only [Act.put, List.setIfInBounds_toArray, List.set_cons_zero, List.set_cons_succ]
    refine wpAnyF_take (i := 5) (oi := { dst := some 20, op := Go.Op.nilCheck (Go.Operand.tmp 19), type := 0, pos := "journal.go:55", after := #[{ on := 4, ground := Go.Ground.data }], guard := none }) (v := ?v1_5) hNW (by decide) rfl (by kernel_rfl) (by kernel_rfl) (by kernel_rfl) (by kernel_rfl) (fun _ _ _ h => h) (Or.inl ⟨by kernel_rfl, ?h1_5⟩) (by assumption) ?r1_5
    case h1_5 => (intro wt hSw; obtain ⟨-, hs0, hs1⟩ := hSw; go_simp; try with_reducible rfl)
    simp only [Act.put, List.setIfInBounds_toArray, List.set_cons_zero, List.set_cons_succ]
    refine wpAnyF_take (i := 6) (oi := { dst := some 21, op := Go.Op.fieldAddr 83 (Go.Operand.tmp 20) 3, type := 0, pos := "journal.go:55", after := #[{ on := 5, ground := Go.Ground.data }], guard := none }) (v := ?v1_6) hNW (by decide) rfl (by kernel_rfl) (by kernel_rfl) (by kernel_rfl) (by kernel_rfl) (fun _ _ _ h => h) (Or.inl ⟨by kernel_rfl, ?h1_6⟩) (by assumption) ?r1_6
    case h1_6 => (intro wt hSw; obtain ⟨-, hs0, hs1⟩ := hSw; go_simp; try with_reducible rfl)
    simp only [Act.put, List.setIfInBounds_toArray, List.set_cons_zero, List.set_cons_succ]
    refine wpAnyF_take (i := 7) (oi := { dst := some 22, op := Go.Op.load 3 (Go.Operand.tmp 21), type := 3, pos := "journal.go:55", after := #[{ on := 6, ground := Go.Ground.data }], guard := none }) (v := ?v1_7) hNW (by decide) rfl (by kernel_rfl) (by kernel_rfl) (by kernel_rfl) (by kernel_rfl) (fun _ _ _ h => h) (Or.inl ⟨by kernel_rfl, ?h1_7⟩) (by assumption) ?r1_7
    case h1_7 => (intro wt hSw; obtain ⟨-, hs0, hs1⟩ := hSw; go_simp; try with_reducible rfl)
    simp only [Act.put, List.setIfInBounds_toArray, List.set_cons_zero, List.set_cons_succ]
    refine wpAnyF_take (i := 8) (oi := { dst := some 23, op := Go.Op.move (Go.Operand.tmp 2), type := 30, pos := "journal.go:55", after := #[], guard := none }) (v := ?v1_8) hNW (by decide) rfl (by kernel_rfl) (by kernel_rfl) (by kernel_rfl) (by kernel_rfl) (fun _ _ _ h => h) (Or.inl ⟨by kernel_rfl, ?h1_8⟩) (by assumption) ?r1_8
    case h1_8 => (intro wt hSw; obtain ⟨-, hs0, hs1⟩ := hSw; go_simp; try with_reducible rfl)
    simp only [Act.put, List.setIfInBounds_toArray, List.set_cons_zero, List.set_cons_succ]
    refine wpAnyF_take (i := 9) (oi := { dst := some 24, op := Go.Op.call { callee := Go.Callee.builtin Go.Builtin.len, args := #[Go.Operand.tmp 23], argTypes := #[30] }, type := 3, pos := "journal.go:55", after := #[{ on := 8, ground := Go.Ground.data }], guard := none }) (v := ?v1_9) hNW (by decide) rfl (by kernel_rfl) (by kernel_rfl) (by kernel_rfl) (by kernel_rfl) (fun _ _ _ h => h) (Or.inl ⟨by kernel_rfl, ?h1_9⟩) (by assumption) ?r1_9
    case h1_9 => (intro wt hSw; obtain ⟨-, hs0, hs1⟩ := hSw; go_simp; try with_reducible rfl)
    simp only [Act.put, List.setIfInBounds_toArray, List.set_cons_zero, List.set_cons_succ]
    refine wpAnyF_take (i := 11) (oi := { dst := some 26, op := Go.Op.nilCheck (Go.Operand.tmp 18), type := 81, pos := "journal.go:55", after := #[{ on := 3, ground := Go.Ground.data }], guard := none }) (v := ?v1_11) hNW (by decide) rfl (by kernel_rfl) (by kernel_rfl) (by kernel_rfl) (by kernel_rfl) (fun _ _ _ h => h) (Or.inl ⟨by kernel_rfl, ?h1_11⟩) (by assumption) ?r1_11
    case h1_11 => (intro wt hSw; obtain ⟨-, hs0, hs1⟩ := hSw; go_simp; try with_reducible rfl)
    simp only [Act.put, List.setIfInBounds_toArray, List.set_cons_zero, List.set_cons_succ]
    refine wpAnyF_take (i := 12) (oi := { dst := some 27, op := Go.Op.move (Go.Operand.tmp 18), type := 81, pos := "journal.go:55", after := #[{ on := 3, ground := Go.Ground.data }, { on := 11, ground := Go.Ground.data }], guard := none }) (v := ?v1_12) hNW (by decide) rfl (by kernel_rfl) (by kernel_rfl) (by kernel_rfl) (by kernel_rfl) (fun _ _ _ h => h) (Or.inl ⟨by kernel_rfl, ?h1_12⟩) (by assumption) ?r1_12
    case h1_12 => (intro wt hSw; obtain ⟨-, hs0, hs1⟩ := hSw; go_simp; try with_reducible rfl)
    simp only [Act.put, List.setIfInBounds_toArray, List.set_cons_zero, List.set_cons_succ]
    refine wpAnyF_one (i := 10) (o := { dst := some 25, op := Go.Op.makeSlice 30 (Go.Operand.tmp 24) (Go.Operand.tmp 24), type := 30, pos := "journal.go:55", after := #[{ on := 9, ground := Go.Ground.data }, { on := 9, ground := Go.Ground.data }], guard := none }) rfl rfl (by kernel_rfl) ?_
    refine step_val (v := .slice (some ⟨(w.drewN nq).drew.heap.size, 0, none⟩) m m) (w' := (w.drewN nq).drew.alloc (.cells arr 5)) (by go_simp) ?_
    have hBm : Below w.heap.size w ((w.drewN nq).drew.alloc (.cells arr 5)) := below_two hBb (below_new _ _) (Nat.le_refl _)
    have hHeld2 := (show (fun w' => Hid (Below w.heap.size w w') ∧ w'.cell? ⟨q, 0, none⟩ = some (.iface 22 (.pointer (some ⟨G.p, 0, none⟩))) ∧ w'.cell? ⟨q, 3, none⟩ = some (.int .i64 (en : Nat))) ((w.drewN nq).drew.alloc (.cells arr 5)) from ⟨hBm, cell_kept hBm g0, cell_kept hBm g3⟩)
    refine ⟨fun _ => hHeld2, ?_⟩
    simp only [Act.put, List.setIfInBounds_toArray, List.set_cons_zero, List.set_cons_succ]
    refine wpAnyF_one (i := 13) (o := { dst := some 28, op := Go.Op.call { callee := Go.Callee.invoke (Go.Operand.tmp 27) "braid/journal.put", args := #[Go.Operand.tmp 22, Go.Operand.tmp 25], argTypes := #[3, 30] }, type := 0, pos := "journal.go:55", after := #[{ on := 12, ground := Go.Ground.data }, { on := 7, ground := Go.Ground.data }, { on := 10, ground := Go.Ground.data }], guard := none }) rfl rfl (by kernel_rfl) ?_
    refine step_callx (f := 66) (args := #[pt G.p 0, .int .i64 (en : Nat), .slice (some ⟨(w.drewN nq).drew.heap.size, 0, none⟩) m m]) (by first | kernel_rfl | go_simp) (HPT.out _ hBb) ?_
    rintro v6 w6 ⟨rfl, y0, hAA⟩
    refine ⟨fun h => absurd rfl h, ?_⟩
    simp only [Act.put]
    refine wpAnyF_done (by kernel_rfl) ?_ _
    clear hNW hHeld hHeld2 hBb hBm
    have HAA := hid hAA
    clear hAA HPT HC HV
    go_wp2_with (go_at_call 21; refine HAA.out.mono ?_; rintro e w7 ⟨rfl, hZ⟩; have HZ := hid hZ; clear hZ)
    refine bodyPost_end (results_none Tryd.results62 _ _ _) rfl ?_
    exact ⟨rfl, HZ.out⟩
end Go.Proofs.YtfhjiggaacgncaaDoor
