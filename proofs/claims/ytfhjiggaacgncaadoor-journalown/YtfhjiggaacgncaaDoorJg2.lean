import Derived.Test.YtfhjiggaacgncaaDoorJg1
namespace Go.Proofs.YtfhjiggaacgncaaDoor
open Go.RowKit Go.Maps Go.Sort
set_option maxRecDepth 100000

theorem info41 : ∃ i : TypeInfo, Tryd.prog.info? 41 = some i ∧ i.zero = some (.agg #[.int .u64 0, .int .u8 0, .slice none 0 0]) ∧ i.size = 3 ∧ i.bytes = 40 := by
  have h : (Tryd.prog.info? 41).map (fun i => (i.zero, i.size, i.bytes)) = some (some (.agg #[.int .u64 0, .int .u8 0, .slice none 0 0]), 3, 40) := by kernel_rfl
  cases hq : Tryd.prog.info? 41 with
  | none => rw [hq] at h; cases h
  | some i => rw [hq] at h; simp at h; exact ⟨i, rfl, h.1, h.2.1, h.2.2⟩
/-- A record behind an own row of them. -/
theorem push41 {w : World} {v : Value} {R : List Rc} {x : Rc} {bx : Nat} (h : w.ownsRow 0 41 3 v R.length (flatR 0 R)) (hl : R.length ≤ 1099511627776) (h0 : w.cell? ⟨bx, 0, none⟩ = some (.int .u64 (R.length : Nat))) (h1' : w.cell? ⟨bx, 1, none⟩ = some (.int .u8 (ub x.k))) (h2' : w.cell? ⟨bx, 2, none⟩ = some x.v) (hv : x.v.oneCell' = true) (ty : TypeId) :
    ∃ v' w', (Builtin.append_ #[38, 38] ty #[v, .slice (some ⟨bx, 0, none⟩) 1 1]).run Tryd.prog w = .ok v' w' ∧ w'.ownsRow 0 41 3 v' (R ++ [x]).length (flatR 0 (R ++ [x])) ∧ Fr (fun k => v.ownBlock = some k) w w' ∧ ∀ g, v'.ownBlock = some g → v.ownBlock = some g ∨ w.heap.size ≤ g := by
  obtain ⟨i, h1, h2, h3, h4⟩ := info41
  obtain ⟨v', w', hr, ho, hg, _, ha⟩ := run_append_own_at (P := Tryd.prog) w 0 38 ty 41 i (.agg #[.int .u64 0, .int .u8 0, .slice none 0 0]) 3 40 Tryd.underlying38 h1 h2 h3 h4 rfl (by decide) v R.length (flatR 0 R) h ⟨bx, 0, none⟩ 1 1 (rcells R.length x) rfl (fun j u hu => by
    have hj : j < 3 := (List.getElem?_eq_some_iff.1 hu).1
    rw [Addr.add_mid, Nat.zero_add]
    obtain rfl | rfl | rfl : j = 0 ∨ j = 1 ∨ j = 2 := by omega
    · rw [h0, ← hu]; rfl
    · rw [h1', ← hu]; rfl
    · rw [h2', ← hu]; rfl) (fun u hu => by
      have : u = .int .u64 (R.length : Nat) ∨ u = .int .u8 (ub x.k) ∨ u = x.v := by simpa [rcells] using hu
      rcases this with rfl | rfl | rfl
      · rfl
      · rfl
      · exact hv) (by unfold maxLen; omega) (by omega) (Nat.zero_le _)
  refine ⟨v', w', hr, ?_, Fr.of_grown hg (fun k e => .inl e), fun g e => ?_⟩
  · rw [flatR_app, show (R ++ [x]).length = R.length + 1 by simp, Nat.zero_add]
    simpa [flatR] using ho
  · rcases ha with e' | e'
    · exact .inl (e' ▸ e)
    · rw [e'] at e
      injection e with e
      exact .inr (Nat.le_of_eq e)
theorem bsl38 (w : World) (i j : Int) (a : Option Addr) (n c : Nat) : (Instr.buildSlice 38 1 #[(0, .agg #[.int .u64 i, .int .u8 j, .slice a n c])]).run Tryd.prog w = .ok (.slice (some ⟨w.heap.size, 0, none⟩) 1 1) (w.alloc (.cells #[.int .u64 i, .int .u8 j, .slice a n c] 41)) := by kernel_rfl
def Lg.add (G : Lg) (x : Rc) (v' : Value) : Lg := { G with R := G.R ++ [x], end_ := G.end_ + (18 + x.b.length), rv := v' }
def Lg.AddM (G : Lg) (q k : Nat) : Prop := k = q ∨ G.rv.ownBlock = some k
theorem add_mem {w w1 w3 w4 : World} {q : Nat} {G : Lg} (h : LgAt w1 q G) (hb1 : Below w.heap.size w w1) {x : Rc} {v' : Value} (hv : OwnBy w1 0 x.v x.b) (hb3 : Below w1.heap.size w1 w3)
    (hW4 : w4.ownsRow 0 41 3 v' (G.R ++ [x]).length (flatR 0 (G.R ++ [x]))) (hF4 : Fr (fun k => G.rv.ownBlock = some k) w3 w4) (hn4 : ∀ g, v'.ownBlock = some g → G.rv.ownBlock = some g ∨ w3.heap.size ≤ g) (n : Nat) :
    LgAt (((w4.setCell ⟨q, 4, none⟩ v').drewN n).setCell ⟨q, 3, none⟩ (.int .i64 ((G.end_ + (18 + x.b.length) : Nat) : Int))) q (G.add x v') ∧ Fr (G.AddM q) w (((w4.setCell ⟨q, 4, none⟩ v').drewN n).setCell ⟨q, 3, none⟩ (.int .i64 ((G.end_ + (18 + x.b.length) : Nat) : Int))) ∧ ∀ g, v'.ownBlock = some g → G.rv.ownBlock = some g ∨ w.heap.size ≤ g := by
  have hqr : G.rv.ownBlock ≠ some q := fun e => by
    obtain ⟨cur, hg⟩ := own_blk h.recs e
    exact absurd (cells_type h.row.at_ hg) (by decide)
  have f4 : Fr (fun k => G.rv.ownBlock = some k) w1 w4 := (Fr.of_below (S := fun k => G.rv.ownBlock = some k) hb3 (Nat.le_refl _)).trans hF4 (fun _ e => .inl e)
  have hr4 := f4.row h.row hqr
  have hpv : v'.ownBlock ≠ some q := fun e => by
    obtain ⟨cur, hg⟩ := own_blk hW4 e
    exact absurd (cells_type hr4.at_ hg) (by decide)
  have fq : ∀ {t : TypeId} {sz : Nat} {u : Value} {m : Nat} {xs : List Value}, w4.ownsRow 0 t sz u m xs → u.ownBlock ≠ some q → (((w4.setCell ⟨q, 4, none⟩ v').drewN n).setCell ⟨q, 3, none⟩ (.int .i64 ((G.end_ + (18 + x.b.length) : Nat) : Int))).ownsRow 0 t sz u m xs := fun ho hne =>
    ((((Fr.refl (fun x => x = q) w4).setCell q 4 v' (.inl rfl)).drewN n).setCell q 3 _ (.inl rfl)).own ho (fun y e e' => hne (e' ▸ e))
  have old : ∀ y, OwnBy w1 0 y.v y.b → OwnBy (((w4.setCell ⟨q, 4, none⟩ v').drewN n).setCell ⟨q, 3, none⟩ (.int .i64 ((G.end_ + (18 + x.b.length) : Nat) : Int))) 0 (y : Rc).v y.b := fun y hy => by
    refine fq (f4.own hy (fun g e e' => ?_)) (fun e => ?_)
    · obtain ⟨cur, hg⟩ := own_blk hy e
      obtain ⟨cur', hg'⟩ := own_blk h.recs e'
      exact absurd (cells_type hg hg') (by decide)
    · obtain ⟨cur, hg⟩ := own_blk hy e
      exact absurd (cells_type h.row.at_ hg) (by decide)
  refine ⟨⟨?_, fq hW4 hpv, fun y hy => ?_⟩, ?_, ?_⟩
  · exact ((hr4.set 4 v').drew n).set 3 _
  · rcases List.mem_append.1 (show y ∈ G.R ++ [x] from hy) with hy | hy
    · exact old y (h.by_ y hy)
    · simp at hy
      subst hy
      exact old y hv
  · refine ((((Fr.of_below (S := G.AddM q) hb1 (Nat.le_refl _)).trans f4 (fun _ e => .inl (.inr e))).setCell q 4 v' (.inl (.inl rfl))).drewN n).setCell q 3 _ (.inl (.inl rfl))
  · intro g e
    rcases hn4 g e with e' | e'
    · exact .inl e'
    · exact .inr (Nat.le_trans hb1.size (Nat.le_trans hb3.size e'))
set_option maxHeartbeats 2000000 in
theorem add_any {w : World} {q : Nat} {G : Lg} (h : LgAt w q G) (hl : G.R.length ≤ 1099511627776) (he : G.end_ ≤ 16777216) {x : Rc} (hv : OwnBy w 0 x.v x.b) (hx : x.b.length ≤ 16777216) :
    Calls Tryd.prog 39 #[pt q 0, .agg #[.int .u64 (G.R.length : Nat), .int .u8 (ub x.k), x.v]] w fun e w' => e = .returned (.tuple #[]) ∧ ∃ v', LgAt w' q (G.add x v') ∧ Fr (G.AddM q) w w' ∧ ∀ g, v'.ownBlock = some g → G.rv.ownBlock = some g ∨ w.heap.size ≤ g := by
  obtain ⟨a, cap, ev, -⟩ := own_len hv
  obtain ⟨wa, wcp, ew, -⟩ := own_len h.recs
  have hb1 := below_new w (.cells #[.int .u64 (G.R.length : Nat), .int .u8 (ub x.k), x.v] 41)
  have R1 := Row.new w [.int .u64 (G.R.length : Nat), .int .u8 (ub x.k), x.v] 41
  have hM1 := h.kept hb1
  have hv1 := own_below hv hb1
  rw [ev]
  rw [ev] at hb1 R1 hM1 hv1
  go_enter Tryd.func39, Tryd.ntmps39
  go_upto_region 1 with fail
  have hall := And.intro hb1 (And.intro R1 (And.intro hM1 hv1))
  clear hb1 R1 hM1 hv1
  revert hall
  generalize w.alloc (.cells #[.int .u64 (G.R.length : Nat), .int .u8 (ub x.k), .slice a x.b.length cap] 41) = w1
  rintro ⟨hb1, R1, hM1, hv1⟩
  have hba := below_new w1 (.cells #[.int .u64 (G.R.length : Nat), .int .u8 (ub x.k), .slice a x.b.length cap] 41)
  have hbd := below_drewN hba 1
  have RN := Row.new w1 [.int .u64 (G.R.length : Nat), .int .u8 (ub x.k), .slice a x.b.length cap] 41
  obtain ⟨v', w4, hrun, hW4, hF4, hn4⟩ := push41 (x := x) (own_below hM1.recs hbd) hl ((RN.drew 1).cell 0 _ rfl) ((RN.drew 1).cell 1 _ rfl) (by rw [ev]; exact (RN.drew 1).cell 2 _ rfl) (by rw [ev]; rfl) 38
  obtain ⟨a4, c4, e4, -⟩ := own_len hW4
  rw [show (G.R ++ [x]).length = G.R.length + 1 by simp] at e4
  have hqr : G.rv.ownBlock ≠ some q := fun e => by
    obtain ⟨cur, hg⟩ := own_blk hM1.recs e
    exact absurd (cells_type hM1.row.at_ hg) (by decide)
  have Rp := hM1.row
  have RpA := Rp.alloc (.cells #[.int .u64 (G.R.length : Nat), .int .u8 (ub x.k), .slice a x.b.length cap] 41)
  have RpB := hF4.row (Rp.kept hbd Rp.lt) hqr
  have hxr : G.rv.ownBlock ≠ some w.heap.size := fun e => by have := own_lt h.recs e; omega
  have hxq : w.heap.size ≠ q := fun e => by have := h.row.lt; omega
  have RXA := R1.alloc (.cells #[.int .u64 (G.R.length : Nat), .int .u8 (ub x.k), .slice a x.b.length cap] 41)
  have RXB := hF4.row (R1.kept hbd R1.lt) hxr
  have HE := hid (fun n => add_mem (w := w) hM1 hb1 (x := x) (by rw [ev]; exact hv1) hbd hW4 hF4 hn4 n)
  have p4 := Rp.cell 4 _ rfl
  have p4a := RpA.cell 4 _ rfl
  have p4b := RpB.cell 4 _ rfl
  have f4b := RpB.frozen 4
  have HRB := hid RpB
  have HRXB := hid RXB
  have x0 := R1.cell 0 _ rfl
  have x1 := R1.cell 1 _ rfl
  have x2 := R1.cell 2 _ rfl
  have x0a := RXA.cell 0 _ rfl
  have x1a := RXA.cell 1 _ rfl
  have x2a := RXA.cell 2 _ rfl
  have hbs := bsl38
  rw [ew] at hrun p4 p4a p4b
  subst e4
  have HRUN := hid hrun
  obtain ⟨e1, he1⟩ : ∃ e, 18 + x.b.length = e := ⟨_, rfl⟩
  obtain ⟨e2, he2⟩ : ∃ e, G.end_ + e1 = e := ⟨_, rfl⟩
  rw [he1, he2] at HE
  have j1 : (18 : Int) + x.b.length = e1 := by omega
  have j2 : IntKind.i64.wrap (e1 : Int) = e1 := by rw [IntKind.wrap_i64]; omega
  have j3 : (G.end_ : Int) + e1 = e2 := by omega
  have j4 : IntKind.i64.wrap (e2 : Int) = e2 := by rw [IntKind.wrap_i64]; omega
  clear h hl he hv hx ev ew hb1 R1 hM1 hv1 hba hbd RN hrun hW4 hF4 hn4 Rp RpA RpB RXA RXB he1 he2
  go_cut [] from 4 to 11 (fun wx => wx = (w4.setCell ⟨q, 4, none⟩ (.slice a4 (G.R.length + 1) c4)))
  case first =>
    go_region_law (refine step_append_by (by rfl) _ _ _ (by rfl) (by rfl) (by rfl) HRUN.out ?_)
    all_goals (go_wp2_with fail; go_meet)
    all_goals first | rfl | trivial
  case rest =>
    subst hcut
    have Rq := HRB.out.set 4 (.slice a4 (G.R.length + 1) c4)
    have RX := HRXB.out.setOther ⟨q, 4, none⟩ hxq (.slice a4 (G.R.length + 1) c4)
    have y2 := RX.cell 2 _ rfl
    have y3 := Rq.cell 3 _ rfl
    have fy3 := Rq.frozen 3
    clear Rq RX HRB HRXB p4 p4a p4b f4b x0 x1 x2 x0a x1a x2a HRUN hbs
    revert y2 y3 fy3 HE
    generalize w4.setCell ⟨q, 4, none⟩ (.slice a4 (G.R.length + 1) c4) = w5
    intro HE y2 y3 fy3
    go_upto_region 2 with fail
    go_region
    all_goals go_wp2_with fail
    all_goals refine bodyPost_end (results_none Tryd.results39 _ _ _) rfl ?_
    all_goals exact ⟨rfl, _, HE.out 1⟩
end Go.Proofs.YtfhjiggaacgncaaDoor
