import Derived.Test.YtoeldomhkeancaaRn0
import Derived.Test.YtoeldomhkeancaaNm0
import Derived.BigQuiet
namespace Go.Proofs.Ytoeldomhkeancaa
open Go.RowKit Go.Maps
set_option maxRecDepth 100000

/-- What NewLink gave, seen from a law. -/
def VL (B : Nat) (w : World) (f r d q : Int) (loss : List Bool) (jit : List Int) (vl : Value) : Prop := (f ≠ 0 ∧ vl = .pointer none) ∨ (f = 0 ∧ ∃ p lv jv, vl = pt p 0 ∧ LkAt w p (Lk.fresh r d q loss jit lv jv) ∧ B ≤ p ∧ (∀ g, lv.ownBlock = some g → B ≤ g) ∧ (∀ g, jv.ownBlock = some g → B ≤ g))
/-- What the document's New gave. -/
def VR (w : World) (f r d q : Int) (rv : Value) : Prop := (f ≠ 0 ∧ rv = .pointer none) ∨ (f = 0 ∧ ∃ p lv jv, rv = pt p 0 ∧ Row w p (rlk r d q lv jv) 82)
theorem VL.fr {B : Nat} {w w' : World} {f r d q : Int} {loss : List Bool} {jit : List Int} {vl : Value} {S : Nat → Prop} (h : VL B w f r d q loss jit vl) (hf : Fr S w w') (hS : ∀ x, S x → x < B) : VL B w' f r d q loss jit vl := by
  rcases h with h | ⟨h0, p, lv, jv, e, hL, h1, h2, h3⟩
  · exact .inl h
  · refine .inr ⟨h0, p, lv, jv, e, hL.kept hf (fun k hk hs => ?_), h1, h2, h3⟩
    have hk2 := hS k hs
    rcases hk with (e1 | e1 | e1) | e1 | e1 | ⟨x, hx, _⟩
    · omega
    · exact absurd e1 (by simp [Lk.fresh, Value.ownBlock])
    · exact absurd e1 (by simp [Lk.fresh, Value.ownBlock])
    · have := h2 k e1; omega
    · have := h3 k e1; omega
    · exact absurd hx List.not_mem_nil
theorem VL.below {B : Nat} {w w' : World} {f r d q : Int} {loss : List Bool} {jit : List Int} {vl : Value} (h : VL B w f r d q loss jit vl) (hb : Below w.heap.size w w') : VL B w' f r d q loss jit vl := by
  rcases h with h | ⟨h0, p, lv, jv, e, hL, h1, h2, h3⟩
  · exact .inl h
  · exact .inr ⟨h0, p, lv, jv, e, hL.below hb, h1, h2, h3⟩
theorem VR.fr {w w' : World} {f r d q : Int} {rv : Value} {S : Nat → Prop} (h : VR w f r d q rv) (hf : Fr S w w') (hS : ∀ x, S x → ∃ c t, t ≠ 82 ∧ Row w x c t) : VR w' f r d q rv := by
  rcases h with h | ⟨h0, p, lv, jv, e, hR⟩
  · exact .inl h
  · refine .inr ⟨h0, p, lv, jv, e, hf.row hR (fun hs => ?_)⟩
    obtain ⟨c, t, ht, hr⟩ := hS p hs
    exact ht (cells_type hr.at_ hR.at_)
theorem newB {w : World} {r d q : Int} {la ja : Option Addr} {lc jc : Nat} {loss : List Bool} {jit : List Int} (hlo : ElAt w la (loss.map Value.bool)) (hj : ElAt w ja (jit.map (Value.int .i64))) (hll : loss.length ≤ 140737488355328) (hjl : jit.length ≤ 140737488355328) :
    Calls Try.prog 15 #[.agg (confC r d q (.slice la loss.length lc) (.slice ja jit.length jc)).toArray] w fun e w' => ∃ vl, e = .returned (.tuple #[vl, .int .i64 (fitE r d q loss.length jit)]) ∧ VL w.heap.size w' (fitE r d q loss.length jit) r d q loss jit vl ∧ Below w.heap.size w w' := by
  by_cases hf : fitE r d q loss.length jit = 0
  · refine (new_ok2 (lc := lc) (jc := jc) hlo hj hf).mono ?_
    rintro e w' ⟨p, lv, jv, rfl, hA, hp, h1, h2, hB⟩
    exact ⟨_, by rw [hf], .inr ⟨hf, p, lv, jv, rfl, hA, hp, h1, h2⟩, hB⟩
  · refine (new_no (la := la) (lc := lc) (jc := jc) hj hjl hll hf).mono ?_
    rintro e w' ⟨rfl, hB⟩
    exact ⟨_, rfl, .inl ⟨hf, rfl⟩, hB⟩
theorem rnewB {w : World} {r d q : Int} {la ja : Option Addr} {lc jc : Nat} {loss : List Bool} {jit : List Int} (hlo : ElAt w la (loss.map Value.bool)) (hj : ElAt w ja (jit.map (Value.int .i64))) (hzl : la = none → lc = 0) (hzj : ja = none → jc = 0) (hll : loss.length ≤ 140737488355328) (hjl : jit.length ≤ 140737488355328) :
    Calls Try.prog 29 #[.agg (confC r d q (.slice la loss.length lc) (.slice ja jit.length jc)).toArray] w fun e w' => ∃ rv, e = .returned (.tuple #[rv, .int .i64 (fitE r d q loss.length jit)]) ∧ VR w' (fitE r d q loss.length jit) r d q rv ∧ Below w.heap.size w w' := by
  by_cases hf : fitE r d q loss.length jit = 0
  · refine (rnew_ok (lc := lc) (jc := jc) hlo hj hzl hzj hf).mono ?_
    rintro e w' ⟨p, lv, jv, rfl, hA, hB⟩
    exact ⟨_, by rw [hf], .inr ⟨hf, p, lv, jv, rfl, hA⟩, hB⟩
  · refine (rnew_no (la := la) (lc := lc) (jc := jc) hj hjl hll hf).mono ?_
    rintro e w' ⟨rfl, hB⟩
    exact ⟨_, rfl, .inl ⟨hf, rfl⟩, hB⟩
/-- An own row of one-cell elements, as a row of memory. -/
theorem own_rowL {w : World} {base t n g c : Nat} {xs : List Value} (h : w.ownsRow base t 1 (.slice (some ⟨g, 0, none⟩) n c) n xs) : ∃ A, Row w g A t ∧ base ≤ g ∧ ∀ (m : Nat) x, xs[m]? = some x → A[m]? = some x := by
  obtain ⟨hl, ⟨e, hn0⟩ | ⟨g', cap, cur, e, hb, hg, hnc, hcm, hcs, htk⟩⟩ := h
  · cases e
  · injection e with e1 e2 e3
    injection e1 with e1
    injection e1 with e1
    subst e1
    refine ⟨cur.toList, ⟨by simpa using hg⟩, hb, fun m x hx => ?_⟩
    have hm := (List.getElem?_eq_some_iff.1 hx).1
    rw [← htk, List.getElem?_take] at hx
    split at hx
    · exact hx
    · cases hx
/-- The two lists that were handed in, as the law's spoiling has come to. -/
structure MdS (w5 : World) (g1 g2 : Nat) (A B : List Value) (i j : Nat) (w : World) : Prop where
  a : ∃ A', Row w g1 A' 4 ∧ A'.length = A.length ∧ ∀ m, i ≤ m → A'[m]? = A[m]?
  b : ∃ B', Row w g2 B' 3 ∧ B'.length = B.length ∧ ∀ m, j ≤ m → B'[m]? = B[m]?
  fr : Fr (fun k => k = g1 ∨ k = g2) w5 w
theorem MdS.setA {w5 w : World} {g1 g2 i j : Nat} {A B : List Value} (h : MdS w5 g1 g2 A B i j w) (hg : g1 ≠ g2) (v : Value) : MdS w5 g1 g2 A B (i + 1) j (w.setCell ⟨g1, i, none⟩ v) := by
  obtain ⟨⟨A', hA, hl, hm⟩, ⟨B', hB, hl2, hm2⟩, hf⟩ := h
  exact ⟨⟨A'.set i v, hA.set i v, by simpa using hl, fun m h => by rw [List.getElem?_set_ne (by omega)]; exact hm m (by omega)⟩, ⟨B', hB.setOther ⟨g1, i, none⟩ (fun e => hg e.symm) v, hl2, hm2⟩, hf.setCell g1 i v (.inl (.inl rfl))⟩
theorem MdS.setB {w5 w : World} {g1 g2 i j : Nat} {A B : List Value} (h : MdS w5 g1 g2 A B i j w) (hg : g1 ≠ g2) (v : Value) : MdS w5 g1 g2 A B i (j + 1) (w.setCell ⟨g2, j, none⟩ v) := by
  obtain ⟨⟨A', hA, hl, hm⟩, ⟨B', hB, hl2, hm2⟩, hf⟩ := h
  exact ⟨⟨A', hA.setOther ⟨g2, j, none⟩ hg v, hl, hm⟩, ⟨B'.set j v, hB.set j v, by simpa using hl2, fun m h => by rw [List.getElem?_set_ne (by omega)]; exact hm2 m (by omega)⟩, hf.setCell g2 j v (.inl (.inr rfl))⟩
theorem MdS.setDrew {w5 w : World} {g1 g2 i j nq : Nat} {A B : List Value} (h : MdS w5 g1 g2 A B i j w) (hg : g1 ≠ g2) (v : Value) : MdS w5 g1 g2 A B (i + 1) j ((w.drewN nq).setCell ⟨g1, i, none⟩ v) := by
  obtain ⟨⟨A', hA, hl, hm⟩, ⟨B', hB, hl2, hm2⟩, hf⟩ := h
  exact MdS.setA ⟨⟨A', hA.drew nq, hl, hm⟩, ⟨B', hB.drew nq, hl2, hm2⟩, hf.drewN nq⟩ hg v
theorem MdS.setDrewB {w5 w : World} {g1 g2 i j nq : Nat} {A B : List Value} (h : MdS w5 g1 g2 A B i j w) (hg : g1 ≠ g2) (v : Value) : MdS w5 g1 g2 A B i (j + 1) ((w.drewN nq).setCell ⟨g2, j, none⟩ v) := by
  obtain ⟨⟨A', hA, hl, hm⟩, ⟨B', hB, hl2, hm2⟩, hf⟩ := h
  exact MdS.setB ⟨⟨A', hA.drew nq, hl, hm⟩, ⟨B', hB.drew nq, hl2, hm2⟩, hf.drewN nq⟩ hg v
/-- What made comes to. -/
def MadeP (w : World) (r d q : Int) (loss : List Bool) (jit : List Int) (e : Ending) (w' : World) : Prop :=
  ∃ vl rv, e = .returned (.tuple #[vl, rv, .bool true]) ∧ VL w.heap.size w' (fitE r d q loss.length jit) r d q loss jit vl ∧ VR w' (fitE r d q loss.length jit) r d q rv ∧ Below w.heap.size w w'
theorem el_pre {w : World} {a : Option Addr} {xs ys : List Value} (h : ElAt w a (xs ++ ys)) : ElAt w a xs := fun k x hx => h k x (by rw [List.getElem?_append_left (List.getElem?_eq_some_iff.1 hx).1]; exact hx)
theorem el_own' {w : World} {base : Nat} {t : TypeId} {a : Option Addr} {n m c : Nat} {xs : List Value} (h : w.ownsRow base t 1 (.slice a m c) n xs) : ElAt w a xs := fun k x hx => by
  obtain ⟨a', cap, e, _, _, _, hc⟩ := own1 h
  injection e with e1
  subst e1
  obtain ⟨g, e, hg⟩ := hc k x hx
  exact ⟨g, 0, e, by rw [Nat.zero_add]; exact hg⟩
theorem confC_one {r d q : Int} {a b : Option Addr} {n m c e : Nat} : ∀ u ∈ confC r d q (.slice a n c) (.slice b m e), u.oneCell' = true := by
  intro u hu
  simp only [confC, List.mem_cons, List.not_mem_nil, or_false] at hu
  rcases hu with rfl | rfl | rfl | rfl | rfl <;> rfl
set_option maxHeartbeats 8000000 in
theorem made_any {w : World} {r d q : Int} {la ja : Option Addr} {lc jc : Nat} {loss : List Bool} {jit : List Int} (hlo : ElAt w la (loss.map Value.bool)) (hj : ElAt w ja (jit.map (Value.int .i64))) (hzl : la = none → lc = 0) (hzj : ja = none → jc = 0) (hll : loss.length + 1 ≤ 140737488355328) (hjl : jit.length + 1 ≤ 17592186044416) :
    Calls Try.prog 17 #[.agg (confC r d q (.slice la loss.length lc) (.slice ja jit.length jc)).toArray] w fun e w' => MadeP w r d q loss jit e w' := by
  have hb1 := below_new w (.cells #[.int .i64 r, .int .i64 d, .int .i64 q, .slice la loss.length lc, .slice ja jit.length jc] 28)
  have R := Row.new w (confC r d q (.slice la loss.length lc) (.slice ja jit.length jc)) 28
  have HC := hid (copied_any (r := r) (d := d) (q := q) (hlo.kept hb1) (hj.kept hb1) hzl hzj hll hjl)
  have x0 := R.cell 0 _ rfl
  have x1 := R.cell 1 _ rfl
  have x2 := R.cell 2 _ rfl
  have x3 := R.cell 3 _ rfl
  have x4 := R.cell 4 _ rfl
  have HB1 := hid hb1
  have HR := hid R
  have HLO := hid hlo
  have HJI := hid hj
  have HZL := hid hzl
  have HZJ := hid hzj
  simp only [confC] at *
  clear hj hlo R hb1 hzl hzj
  go_enter Try.func17, Try.ntmps17
  go_upto_region 1 with fail
  revert HC x0 x1 x2 x3 x4 HB1 HR
  generalize w.alloc (.cells #[.int .i64 r, .int .i64 d, .int .i64 q, .slice la loss.length lc, .slice ja jit.length jc] 28) = w1
  intro HC x0 x1 x2 x3 x4 HB1 HR
  obtain ⟨b, hb⟩ : ∃ b, w.heap.size = b := ⟨_, rfl⟩
  rw [hb] at x0 x1 x2 x3 x4 HR ⊢
  have HBB := hid hb
  clear hb
  go_upto_region 2 with (first
    | (go_at_call 28; refine HC.out.mono ?_; rintro e w2 ⟨g1, c1, g2, c2, rfl, hO1, hO2, hB2⟩; have HO1 := hid hO1; have HO2 := hid hO2; have HB2 := hid hB2; have HRZ := hid (Row.new w2 [.int .i64 0, .int .i64 0, .int .i64 0, .slice none 0 0, .slice none 0 0] 28); clear hO1 hO2 hB2 HC)
    | (show wpList _ _ _ (Oper.mk none (.store 28 (.tmp 5) (.tmp 17)) _ _ _ _ :: _) _ _; refine HRZ.out.wpStore' 28 (.tmp 5) (.tmp 17) (confC r d q (.slice (some ⟨g1, 0, none⟩) loss.length c1) (.slice (some ⟨g2, 0, none⟩) jit.length c2)) rfl rfl rfl rfl rfl confC_one info28c ?_; intro w3 HW3; simp only [Act.put]))
  obtain ⟨B5, hB5⟩ : ∃ B5, w2.heap.size = B5 := ⟨_, rfl⟩
  have hF3 : Fr (fun j => j = w2.heap.size) (w2.alloc (.cells #[.int .i64 0, .int .i64 0, .int .i64 0, .slice none 0 0, .slice none 0 0] 28)) w3 := by rw [HW3.out]; exact fr_row _ _ _
  have hR3 : Row w3 w2.heap.size (confC r d q (.slice (some ⟨g1, 0, none⟩) loss.length c1) (.slice (some ⟨g2, 0, none⟩) jit.length c2)) 28 := by rw [HW3.out]; exact HRZ.out.row _
  have hB3 : Below w2.heap.size w2 w3 := (below_new w2 _).trans (hF3.below (fun x e => Nat.le_of_eq e.symm) (by simp))
  rw [hB5] at hR3 ⊢
  have HO3 := hid (own_below HO1.out hB3)
  have HO4 := hid (own_below HO2.out hB3)
  have HB13 : Hid (Below w1.heap.size w1 w3) := below_two HB2.out hB3 (Nat.le_refl _)
  have y0 := hR3.cell 0 _ rfl
  have y1 := hR3.cell 1 _ rfl
  have y2 := hR3.cell 2 _ rfl
  have y3 := hR3.cell 3 _ rfl
  have y4 := hR3.cell 4 _ rfl
  have HN := hid (newB (r := r) (d := d) (q := q) (lc := c1) (jc := c2) (el_pre (el_own' HO3.out)) (el_pre (el_own' HO4.out)) (show loss.length ≤ _ by omega) (show jit.length ≤ _ by omega))
  clear x0 x1 x2 x3 x4 hF3 hR3 hB3 HW3 HRZ HO1 HO2 HB2 hB5
  go_upto_region 3 with (go_at_call 15; refine HN.out.mono ?_; rintro e w4 ⟨vl, rfl, hV, hB4⟩; have HV := hid hV; have HB4 := hid hB4; clear hV hB4 HN)
  have HR4 := hid (HR.out.kept (below_two HB13.out HB4.out (Nat.le_refl _)) HR.out.lt)
  have HB14 := hid (below_two HB13.out HB4.out (Nat.le_refl _))
  have HBw4 := hid (below_two HB1.out HB14.out (Nat.le_refl _))
  have HRN := hid (rnewB (r := r) (d := d) (q := q) (lc := lc) (jc := jc) (HLO.out.kept HBw4.out) (HJI.out.kept HBw4.out) HZL.out HZJ.out (show loss.length ≤ _ by omega) (show jit.length ≤ _ by omega))
  have z0 := HR4.out.cell 0 _ rfl
  have z1 := HR4.out.cell 1 _ rfl
  have z2 := HR4.out.cell 2 _ rfl
  have z3 := HR4.out.cell 3 _ rfl
  have z4 := HR4.out.cell 4 _ rfl
  clear y0 y1 y2 y3 y4
  go_upto_region 4 with (go_at_call 29; refine HRN.out.mono ?_; rintro e w5 ⟨rv, rfl, hV2, hB5⟩; have HVR := hid hV2; have HB5 := hid hB5; clear hV2 hB5 HRN)
  have HBw5 := hid (below_two HBw4.out HB5.out (Nat.le_refl _))
  have HR5 := hid (HR4.out.kept HB5.out HR4.out.lt)
  obtain ⟨A, hA, hgA, hAm⟩ := own_rowL (own_below (own_below HO3.out HB4.out) HB5.out)
  obtain ⟨D, hD, hgD, hDm⟩ := own_rowL (own_below (own_below HO4.out HB4.out) HB5.out)
  obtain ⟨A3, hA3, -⟩ := own_rowL HO3.out
  obtain ⟨D3, hD3, -⟩ := own_rowL HO4.out
  have hg12 : g1 ≠ g2 := fun e => by
    have := cells_type hA.at_ (e ▸ hD.at_)
    exact absurd this (by decide)
  have HVL5 := hid (HV.out.below HB5.out)
  obtain ⟨f, hff⟩ : ∃ f, fitE r d q loss.length jit = f := ⟨_, rfl⟩
  have HFF := hid hff
  rw [hff] at HVL5 HVR ⊢
  have hsplit : (vl = .pointer none ∧ rv = .pointer none) ∨ ∃ p1 p2, vl = pt p1 0 ∧ rv = pt p2 0 := by
    rcases HVL5.out with ⟨h0, e⟩ | ⟨h0, p, _, _, e, _⟩
    · rcases HVR.out with ⟨_, e2⟩ | ⟨h1, _⟩
      · exact .inl ⟨e, e2⟩
      · exact absurd h1 h0
    · rcases HVR.out with ⟨h1, _⟩ | ⟨_, p2, _, _, e2, _⟩
      · exact absurd h0 h1
      · exact .inr ⟨_, _, e, e2⟩
  have zA := hA.cell loss.length _ (hAm loss.length (.bool true) (by simp))
  have zD := hD.cell jit.length _ (hDm jit.length (.int .i64 77) (by simp))
  have u3 := HR5.out.cell 3 _ rfl
  have u4 := HR5.out.cell 4 _ rfl
  have hli : (loss.length : Int) + 1 ≤ 140737488355328 := by omega
  have hji : (jit.length : Int) + 1 ≤ 17592186044416 := by omega
  have hbg : b < w1.heap.size := HR.out.lt
  have hbw : w.heap.size ≤ w1.heap.size := HB1.out.size
  have HX : Hid (∀ wr, Fr (fun k => k = g1 ∨ k = g2) w5 wr → Below w.heap.size w wr ∧ Row wr b (confC r d q (.slice la loss.length lc) (.slice ja jit.length jc)) 28 ∧ ElAt wr la (loss.map Value.bool) ∧ ElAt wr ja (jit.map (Value.int .i64))) := fun wr hF => by
    have hb := HBw5.out.trans (hF.below (fun x e => by omega) HBw5.out.size)
    exact ⟨hb, hF.row HR5.out (by omega), HLO.out.kept hb, HJI.out.kept hb⟩
  have HS0 : Hid (MdS w5 g1 g2 A D 0 0 w5) := ⟨⟨A, hA, rfl, fun _ _ => rfl⟩, ⟨D, hD, rfl, fun _ _ => rfl⟩, Fr.refl _ _⟩
  have HAm := hid hAm
  have HDm := hid hDm
  have HEND : Hid (∀ wr, Fr (fun k => k = g1 ∨ k = g2) w5 wr → MadeP w r d q loss jit (.returned (.tuple #[vl, rv, .bool true])) wr) := fun wr hF => by
    have h3 : ∀ x, (x = g1 ∨ x = g2) → x < w3.heap.size := fun x e => by
      have h1 := hA3.lt
      have h2 := hD3.lt
      omega
    have hv := HVL5.out.fr hF h3
    refine ⟨vl, rv, rfl, ?_, ?_, (HX.out wr hF).1⟩
    · rw [HFF.out]
      rcases hv with h | ⟨h0, p, lv, jv, e, hL, h1, h2, h3⟩
      · exact .inl h
      · have hs : w.heap.size ≤ w3.heap.size := Nat.le_trans hbw HB13.out.size
        exact .inr ⟨h0, p, lv, jv, e, hL, Nat.le_trans hs h1, fun g e => Nat.le_trans hs (h2 g e), fun g e => Nat.le_trans hs (h3 g e)⟩
    · rw [HFF.out]
      exact HVR.out.fr hF (fun x e => by
        rcases e with rfl | rfl
        · exact ⟨_, _, by decide, hA⟩
        · exact ⟨_, _, by decide, hD⟩)
  clear z0 z1 z2 z3 z4 hA hD hAm hDm hA3 hD3 HVL5 HVR HFF hff HV HB5 HB4 HR4 HB14 HBw4 HO3 HO4 HB13 HBw5 HR5 HLO HJI HR HB1
  rcases hsplit with ⟨rfl, rfl⟩ | ⟨p1, p2, rfl, rfl⟩
  · go_upto_region 6 with fail
    clear zA zD u3 u4
    go_wp2_with fail
    go_loopw [12] (fun s wr => ∃ k : Nat, s = .int .i64 k ∧ k ≤ loss.length ∧ MdS w5 g1 g2 A D k 0 wr) (fun s _ => loss.length - (intOf s).toNat)
    case atStart => exact ⟨0, by go_num, Nat.zero_le _, HS0.out⟩
    case round =>
      obtain ⟨k, rfl, hk, hI⟩ := hrel
      have HI := hid hI
      obtain ⟨-, hRb, hE1, -⟩ := HX.out _ hI.fr
      have c3 := hRb.cell 3 _ rfl
      have hki : (k : Int) ≤ (loss.length : Int) := by omega
      by_cases hlt : k < loss.length
      · have hlti : (k : Int) < (loss.length : Int) := by omega
        obtain ⟨g, o, rfl, cg⟩ := hE1 k (.bool loss[k]) (by simp [hlt])
        obtain ⟨A', hA', hlA, hmA⟩ := hI.a
        have ca := hA'.cell k (.bool loss[k]) ((hmA k (Nat.le_refl _)).trans (HAm.out k _ (by rw [List.getElem?_append_left (by simpa using hlt)]; simp [hlt])))
        have fa := hA'.frozen k
        generalize loss[k] = x at *
        clear hA' hI hE1 hRb
        cases x with
        | false =>
          go_upto_region 9 with fail
          go_quiet (fail)
          have HE2 := hid (MdS.setDrew (nq := nq) HI.out hg12 (.bool (!false)))
          go_wp2_with fail
          go_roundw
          case rel => exact ⟨k + 1, by go_num, hlt, HE2.out⟩
          case measure => simp [intOf]; omega
        | true =>
          go_upto_region 9 with fail
          go_quiet (fail)
          have HE2 := hid (MdS.setDrew (nq := nq) HI.out hg12 (.bool (!true)))
          go_wp2_with fail
          go_roundw
          case rel => exact ⟨k + 1, by go_num, hlt, HE2.out⟩
          case measure => simp [intOf]; omega
      · obtain rfl : k = loss.length := by omega
        clear hI hE1
        go_wp2_with fail
        go_loopw [13] (fun s wx => ∃ m : Nat, s = .int .i64 m ∧ m ≤ jit.length ∧ MdS w5 g1 g2 A D loss.length m wx) (fun s _ => jit.length - (intOf s).toNat)
        case atStart => exact ⟨0, by go_num, Nat.zero_le _, HI.out⟩
        case round =>
          obtain ⟨m, rfl, hm, hJ⟩ := hrel
          have HJ := hid hJ
          obtain ⟨-, hRb, -, hE2⟩ := HX.out _ hJ.fr
          have c4 := hRb.cell 4 _ rfl
          have hmi : (m : Int) ≤ (jit.length : Int) := by omega
          by_cases hlt : m < jit.length
          · have hlti : (m : Int) < (jit.length : Int) := by omega
            obtain ⟨g, o, rfl, cg⟩ := hE2 m (.int .i64 jit[m]) (by simp [hlt])
            obtain ⟨D', hD', hlD, hmD⟩ := hJ.b
            have cd := hD'.cell m (.int .i64 jit[m]) ((hmD m (Nat.le_refl _)).trans (HDm.out m _ (by rw [List.getElem?_append_left (by simpa using hlt)]; simp [hlt])))
            have fd := hD'.frozen m
            generalize jit[m] = x at *
            clear hD' hJ hE2 hRb
            go_upto_region 15 with fail
            go_quiet (fail)
            have HE2 := hid (MdS.setDrewB (nq := nq) HJ.out hg12 (.int .i64 3))
            go_wp2_with fail
            go_roundw
            case rel => exact ⟨m + 1, by go_num, hlt, HE2.out⟩
            case measure => simp [intOf]; omega
          · obtain rfl : m = jit.length := by omega
            have HF := hid (HEND.out _ hJ.fr)
            clear hJ hE2
            go_wp2_with fail
            exact bodyPost_ret (v := .tuple #[.pointer none, .pointer none, .bool true]) (by first | rfl | kernel_rfl) rfl HF.out
  · go_upto_region 6 with fail
    clear zA zD u3 u4
    go_wp2_with fail
    go_loopw [12] (fun s wr => ∃ k : Nat, s = .int .i64 k ∧ k ≤ loss.length ∧ MdS w5 g1 g2 A D k 0 wr) (fun s _ => loss.length - (intOf s).toNat)
    case atStart => exact ⟨0, by go_num, Nat.zero_le _, HS0.out⟩
    case round =>
      obtain ⟨k, rfl, hk, hI⟩ := hrel
      have HI := hid hI
      obtain ⟨-, hRb, hE1, -⟩ := HX.out _ hI.fr
      have c3 := hRb.cell 3 _ rfl
      have hki : (k : Int) ≤ (loss.length : Int) := by omega
      by_cases hlt : k < loss.length
      · have hlti : (k : Int) < (loss.length : Int) := by omega
        obtain ⟨g, o, rfl, cg⟩ := hE1 k (.bool loss[k]) (by simp [hlt])
        obtain ⟨A', hA', hlA, hmA⟩ := hI.a
        have ca := hA'.cell k (.bool loss[k]) ((hmA k (Nat.le_refl _)).trans (HAm.out k _ (by rw [List.getElem?_append_left (by simpa using hlt)]; simp [hlt])))
        have fa := hA'.frozen k
        generalize loss[k] = x at *
        clear hA' hI hE1 hRb
        cases x with
        | false =>
          go_upto_region 9 with fail
          go_quiet (fail)
          have HE2 := hid (MdS.setDrew (nq := nq) HI.out hg12 (.bool (!false)))
          go_wp2_with fail
          go_roundw
          case rel => exact ⟨k + 1, by go_num, hlt, HE2.out⟩
          case measure => simp [intOf]; omega
        | true =>
          go_upto_region 9 with fail
          go_quiet (fail)
          have HE2 := hid (MdS.setDrew (nq := nq) HI.out hg12 (.bool (!true)))
          go_wp2_with fail
          go_roundw
          case rel => exact ⟨k + 1, by go_num, hlt, HE2.out⟩
          case measure => simp [intOf]; omega
      · obtain rfl : k = loss.length := by omega
        clear hI hE1
        go_wp2_with fail
        go_loopw [13] (fun s wx => ∃ m : Nat, s = .int .i64 m ∧ m ≤ jit.length ∧ MdS w5 g1 g2 A D loss.length m wx) (fun s _ => jit.length - (intOf s).toNat)
        case atStart => exact ⟨0, by go_num, Nat.zero_le _, HI.out⟩
        case round =>
          obtain ⟨m, rfl, hm, hJ⟩ := hrel
          have HJ := hid hJ
          obtain ⟨-, hRb, -, hE2⟩ := HX.out _ hJ.fr
          have c4 := hRb.cell 4 _ rfl
          have hmi : (m : Int) ≤ (jit.length : Int) := by omega
          by_cases hlt : m < jit.length
          · have hlti : (m : Int) < (jit.length : Int) := by omega
            obtain ⟨g, o, rfl, cg⟩ := hE2 m (.int .i64 jit[m]) (by simp [hlt])
            obtain ⟨D', hD', hlD, hmD⟩ := hJ.b
            have cd := hD'.cell m (.int .i64 jit[m]) ((hmD m (Nat.le_refl _)).trans (HDm.out m _ (by rw [List.getElem?_append_left (by simpa using hlt)]; simp [hlt])))
            have fd := hD'.frozen m
            generalize jit[m] = x at *
            clear hD' hJ hE2 hRb
            go_upto_region 15 with fail
            go_quiet (fail)
            have HE2 := hid (MdS.setDrewB (nq := nq) HJ.out hg12 (.int .i64 3))
            go_wp2_with fail
            go_roundw
            case rel => exact ⟨m + 1, by go_num, hlt, HE2.out⟩
            case measure => simp [intOf]; omega
          · obtain rfl : m = jit.length := by omega
            have HF := hid (HEND.out _ hJ.fr)
            clear hJ hE2
            go_wp2_with fail
            exact bodyPost_ret (v := .tuple #[pt p1 0, pt p2 0, .bool true]) (by first | rfl | kernel_rfl) rfl HF.out
end Go.Proofs.Ytoeldomhkeancaa
