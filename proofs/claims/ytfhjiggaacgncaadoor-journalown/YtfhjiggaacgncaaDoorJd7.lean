import Derived.Test.YtfhjiggaacgncaaDoorJd6
namespace Go.Proofs.YtfhjiggaacgncaaDoor
open Go.RowKit Go.Maps Go.Sort
set_option maxRecDepth 100000

theorem step_callx {P : Program} {o : Oper} {a : Act} {w : World} {K : Act → World → Prop} {Q : Exit → Act → World → Prop} {f : FuncId} {args : Array Value} {G : Value → World → Prop} (e : (execOp a.eval o).run P w = .ok (.enter f args) w)
    (hc : Calls P f args w fun e w' => ∃ v, e = .returned v ∧ G v w') (h : ∀ v w', G v w' → K (a.put o.dst v) w') : Oper.wp P o a w K Q := by
  unfold Oper.wp
  rw [e, Oper.upon_enter]
  refine Calls.mono hc ?_
  rintro e w' ⟨v, rfl, hg⟩
  exact h v w' hg
def clip (n : Int) (m : Nat) : Nat := (max 0 (min n m)).toNat
theorem clip_le (n : Int) (m : Nat) : clip n m ≤ m := by unfold clip; omega
theorem clip_eq (n : Int) (m : Nat) : max 0 (min n (m : Int)) = (clip n m : Int) := by unfold clip; omega
def nx (l : Int) : Int := IntKind.i64.wrap (l + 1)
theorem nx_ne (l : Int) : nx l ≠ l := by unfold nx; rw [IntKind.wrap_i64]; omega
/-- What is safe behind a crash. -/
def Dk.left (D : Dk) (keep torn : Int) : List (BitVec 8) :=
  match D.W[clip keep D.W.length]? with
  | some x => lay (layAll D.S (D.W.take (clip keep D.W.length))) x.at_ (x.bs.take (clip torn x.bs.length))
  | none => layAll D.S (D.W.take (clip keep D.W.length))
def Dk.crash (D : Dk) (keep torn : Int) : Dk := { D.calm (D.left keep torn) (forgetN (D.left keep torn) D.N D.W) with lives := nx D.lives }
theorem DkAt.safe_to {w w' : World} {p : Nat} {D : Dk} (h : DkAt w p D) {S : List (BitVec 8)} (hS : S.length = D.S.length) (hF : Fr (fun x => x = D.gs) w w') (hO : OwnBy w' 0 D.sv S) : DkAt w' p { D with S := S } :=
  ⟨by simpa [Dk.sv, Dk.nv, hS] using hF.row h.row (fun e => h.ps e), by have h' : w'.ownsRow 0 5 1 D.sv S.length (bcells S) := hO; show World.ownsRow _ _ _ _ _ _ _; simpa [Dk.sv, hS] using h', hF.own h.now (fun x e e' => h.sn (by simp [Dk.nv, Value.ownBlock] at e; exact (e.trans e').symm)),
    hF.own h.wait (fun x e e' => h.sw (e' ▸ e)), fun x hx => hF.own (h.by_ x hx) (fun g e e' => (h.ap x hx).1 (e' ▸ e)), h.ap, h.sn⟩
theorem DkAt.live {w : World} {p : Nat} {D : Dk} (h : DkAt w p D) (l : Int) : DkAt (w.setCell ⟨p, 3, none⟩ (.int .i64 l)) p { D with lives := l } := by
  have hf := (Fr.refl (fun x => x = p) w).setCell p 3 (.int .i64 l) (.inl rfl)
  exact ⟨h.row.set 3 _, hf.own h.safe (fun x e e' => by simp [Dk.sv, Value.ownBlock] at e; exact h.ps (e'.symm.trans e.symm)), hf.own h.now (fun x e e' => by simp [Dk.nv, Value.ownBlock] at e; exact h.pn (e'.symm.trans e.symm)),
    hf.own h.wait (fun x e e' => h.pw (e' ▸ e)), fun x hx => hf.own (h.by_ x hx) (fun g e e' => h.px hx (e' ▸ e)), h.ap, h.sn⟩
set_option maxHeartbeats 4000000 in
theorem crash_any {w : World} {p : Nat} {D : Dk} (h : DkAt w p D) (hk : D.Ok) (hp : ∀ x ∈ D.W, 1 ≤ x.bs.length) (hl : D.W.length ≤ 1099511627776) (keep torn : Int) :
    Calls Tryd.prog 23 #[pt p 0, .int .i64 keep, .int .i64 torn] w fun e w' => e = .returned (.tuple #[]) ∧ DkAt w' p (D.crash keep torn) ∧ Fr (fun k => k = p ∨ k = D.gs ∨ k = D.gn) w w' := by
  obtain ⟨a, cap, ew, hE, hcw1, hcw2⟩ := eltAt_own h.wait h.sw
  have hfit := hk.fits hp
  have HW := hid (within_any w keep D.W.length (by omega))
  rw [clip_eq] at HW
  have hcl := clip_le keep D.W.length
  have hfitK : Fits D.S.length (D.W.take (clip keep D.W.length)) := fun y hy => hfit y (List.mem_of_mem_take hy)
  have HSV := hid (save_any (cap := cap) (h.row.cell 0 _ rfl) h.ps h.safe (hE.take (clip keep D.W.length)) (fun x hx => ⟨h.by_ x (List.mem_of_mem_take hx), (h.ap x (List.mem_of_mem_take hx)).1⟩) hfitK (by rw [List.length_take]; omega))
  rw [List.length_take, Nat.min_eq_left hcl] at HSV
  -- behind the crash
  have HEND : Hid (∀ wr, Fr (fun x => x = D.gs) w wr → OwnBy wr 0 (.slice (some ⟨D.gs, 0, none⟩) D.S.length D.cs) (D.left keep torn) → Calls Tryd.prog 45 #[pt p 0] wr fun e w' => e = .returned (.tuple #[]) ∧ (w'.cell? ⟨p, 3, none⟩ = some (.int .i64 D.lives) ∧ w'.frozen? ⟨p, 3, none⟩ = false) ∧ DkAt (w'.setCell ⟨p, 3, none⟩ (.int .i64 (nx D.lives))) p (D.crash keep torn) ∧ Fr (fun k => k = p ∨ k = D.gs ∨ k = D.gn) w (w'.setCell ⟨p, 3, none⟩ (.int .i64 (nx D.lives)))) := by
    intro wr hF hO
    have hln : (D.left keep torn).length = D.S.length := by
      unfold Dk.left
      cases hx : D.W[clip keep D.W.length]? with
      | none => exact layAll_len _ hfitK rfl
      | some x =>
        have hm := List.mem_of_getElem? hx
        have := hfit x hm
        simp only
        rw [lay_len, layAll_len _ hfitK rfl]
        rw [layAll_len _ hfitK rfl, List.length_take]
        omega
    refine (forget_any (D := { D with S := D.left keep torn }) (h.safe_to hln hF hO) (by show D.N.length = (D.left keep torn).length; rw [hln, hk.len]) (by show Fits (D.left keep torn).length D.W; rw [hln]; exact hfit) (by show (D.left keep torn).length ≤ _; rw [hln]; exact hk.s2) hl).mono ?_
    rintro e w' ⟨rfl, hD, hF'⟩
    have hd := hD.live (nx D.lives)
    refine ⟨rfl, ⟨hD.row.cell 3 _ rfl, hD.row.frozen 3⟩, hd, ?_⟩
    exact (((hF.wider (T := fun k => k = p ∨ k = D.gs ∨ k = D.gn) (fun _ e => .inr (.inl e))).trans hF' (fun x e => .inl (by rcases e with e | e; exact .inl e; exact .inr (.inr e))))).setCell p 3 _ (.inl (.inl rfl))
  have c2 := h.row.cell 2 _ rfl
  rw [ew] at c2
  -- the torn one
  have HT : Hid (∀ wr, Fr (fun x => x = D.gs) w wr → OwnBy wr 0 (.slice (some ⟨D.gs, 0, none⟩) D.S.length D.cs) (layAll D.S (D.W.take (clip keep D.W.length))) → clip keep D.W.length < D.W.length →
      ∃ g2 o2 ad n2 c2 k2 at_, a = some ⟨g2, o2, none⟩ ∧ wr.cell? ⟨g2, o2 + clip keep D.W.length * 2, none⟩ = some (.int .i64 at_) ∧ wr.cell? ⟨g2, o2 + clip keep D.W.length * 2 + 1, none⟩ = some (.slice (some ad) n2 c2) ∧
        (∀ w1, Calls Tryd.prog 43 #[.agg #[.int .i64 at_, .slice (some ad) n2 c2], .int .i64 torn] w1 fun e w' => ∃ v, e = .returned v ∧ v = .agg #[.int .i64 at_, .slice (some ad) k2 k2] ∧ Below w1.heap.size w1 w') ∧
        ∀ w1, Below wr.heap.size wr w1 → Calls Tryd.prog 44 #[.agg #[.int .i64 at_, .slice (some ad) k2 k2], .slice (some ⟨D.gs, 0, none⟩) D.S.length D.cs] w1 fun e w' => ∃ v, e = .returned v ∧ v = .tuple #[] ∧ Fr (fun x => x = D.gs) w w' ∧ OwnBy w' 0 (.slice (some ⟨D.gs, 0, none⟩) D.S.length D.cs) (D.left keep torn)) := by
    intro wr hF hO hlt
    obtain ⟨g2, o2, rfl, hg2, d1, d2⟩ := hE _ hlt
    have hx := h.by_ _ (List.getElem_mem hlt)
    have hxa := (h.ap _ (List.getElem_mem hlt)).1
    have hxF := hfit _ (List.getElem_mem hlt)
    have hxp := hp _ (List.getElem_mem hlt)
    have hx1 := hF.own hx (fun y e e' => hxa (e' ▸ e))
    obtain ⟨a2, cc2, e2, hBy, hlc, hcm, hz, _⟩ := ownBy_shape hx1
    have hlen : (layAll D.S (D.W.take (clip keep D.W.length))).length = D.S.length := layAll_len _ hfitK rfl
    obtain ⟨g3, o3, rfl, _⟩ := hBy 0 (by omega)
    rw [e2] at d2
    refine ⟨g2, o2, ⟨g3, o3, none⟩, D.W[clip keep D.W.length].bs.length, cc2, clip torn D.W[clip keep D.W.length].bs.length, D.W[clip keep D.W.length].at_, rfl, hF.cell d1 (fun e => hg2 e), hF.cell d2 (fun e => hg2 e), fun w1 => ?_, fun w1 hb1 => ?_⟩
    · refine (torn_any w1 D.W[clip keep D.W.length].at_ ⟨g3, o3, none⟩ _ cc2 _ torn hlc hcm (clip_eq _ _)).mono ?_
      rintro e w' ⟨rfl, hb⟩
      exact ⟨_, rfl, rfl, hb⟩
    · have hO2 : OwnBy w1 0 D.sv _ := own_below hO hb1
      have esv : D.sv = .slice (some ⟨D.gs, 0, none⟩) (layAll D.S (D.W.take (clip keep D.W.length))).length D.cs := by rw [hlen]; rfl
      rw [esv] at hO2
      rw [← hlen]
      refine (onto_any hO2 ((hBy.kept hb1).front (clip torn D.W[clip keep D.W.length].bs.length)) (by rw [List.length_take, Nat.min_eq_left (clip_le _ _)]) (fun e => by cases e) (by rw [hlen]; have := clip_le torn D.W[clip keep D.W.length].bs.length; omega) (by rw [hlen]; exact hxF.2)).mono ?_
      rintro e w' ⟨rfl, h1, h2⟩
      have hL : D.left keep torn = lay (layAll D.S (D.W.take (clip keep D.W.length))) D.W[clip keep D.W.length].at_ (D.W[clip keep D.W.length].bs.take (clip torn D.W[clip keep D.W.length].bs.length)) := by
        unfold Dk.left
        rw [List.getElem?_eq_getElem hlt]
      refine ⟨_, rfl, rfl, (hF.trans (T := fun _ => False) (Fr.of_below hb1 (Nat.le_refl _)) (fun _ e => e.elim)).trans h2 (fun _ e => .inl e), ?_⟩
      rw [hL]
      exact h1
  have HN : Hid (¬ clip keep D.W.length < D.W.length → D.left keep torn = layAll D.S (D.W.take (clip keep D.W.length))) := fun hn => by
    unfold Dk.left
    rw [List.getElem?_eq_none (by omega)]
  have HROW : Hid (∀ wr, Fr (fun x => x = D.gs) w wr → wr.cell? ⟨p, 0, none⟩ = some (.slice (some ⟨D.gs, 0, none⟩) D.S.length D.cs) ∧ wr.cell? ⟨p, 2, none⟩ = some (.slice a D.W.length cap)) := fun wr hF => ⟨hF.cell (h.row.cell 0 _ rfl) (fun e => h.ps e), hF.cell (by rw [← ew]; exact h.row.cell 2 _ rfl) (fun e => h.ps e)⟩
  have hnx : IntKind.i64.wrap (D.lives + 1) = nx D.lives := rfl
  unfold maxLen at hcw2
  have i1 : (clip keep D.W.length : Int) ≤ D.W.length := by omega
  have i2 : (D.W.length : Int) ≤ cap := by omega
  have i3 : (cap : Int) ≤ 9223372036854775807 := by omega
  generalize clip keep D.W.length = k at *
  generalize D.left keep torn = SL at *
  generalize layAll D.S (D.W.take k) = S1 at *
  generalize D.W.length = m at *
  generalize D.S.length = L at *
  generalize D.lives = lv at *
  clear hE h hk hp hl hcw1 hcw2 hfit hfitK ew
  go_enter Tryd.func23, Tryd.ntmps23
  go_upto_region 2 with (first | (go_at_call 42; refine HW.out.mono ?_; rintro e w1 ⟨rfl, rfl⟩) | (go_at_call 40; refine HSV.out.mono ?_; rintro e w1 ⟨rfl, hO1, hF1⟩; obtain ⟨p0, p2⟩ := HROW.out w1 hF1; have HO1 := hid hO1; have HF1 := hid hF1; clear hO1 hF1))
  by_cases hlt : k < m
  · obtain ⟨g2, o2, ad, n2, c2x, k2, at_, rfl, d1, d2, hT1, hT2⟩ := HT.out w1 HF1.out HO1.out hlt
    have HT1 := hid hT1
    have HT2 := hid hT2
    have ik : (k : Int) < m := by omega
    clear HT hT1 hT2 HW HSV HN c2 HROW
    go_upto_region 3 with fail
    refine wp_region_last (S := fun w' => Hid (Below w1.heap.size w1 w') ∧ w'.cell? ⟨p, 0, none⟩ = some (.slice (some ⟨D.gs, 0, none⟩) L D.cs) ∧ w'.cell? ⟨p, 2, none⟩ = some (.slice (some ⟨g2, o2, none⟩) m cap) ∧ w'.cell? ⟨g2, o2 + k * 2, none⟩ = some (.int .i64 (at_ : Int)) ∧ w'.cell? ⟨g2, o2 + k * 2 + 1, none⟩ = some (.slice (some ad) n2 c2x)) (N := 13) (by kernel_rfl) (by kernel_rfl) fun hNW => ?_
    have hHeld := (show (fun w' => Hid (Below w1.heap.size w1 w') ∧ w'.cell? ⟨p, 0, none⟩ = some (.slice (some ⟨D.gs, 0, none⟩) L D.cs) ∧ w'.cell? ⟨p, 2, none⟩ = some (.slice (some ⟨g2, o2, none⟩) m cap) ∧ w'.cell? ⟨g2, o2 + k * 2, none⟩ = some (.int .i64 (at_ : Int)) ∧ w'.cell? ⟨g2, o2 + k * 2 + 1, none⟩ = some (.slice (some ad) n2 c2x)) w1.drew from ⟨below_drewN (Below.refl _ _) 1, p0, p2, d1, d2⟩)
    refine wpAnyF_take (i := 0) (oi := { dst := some 28, op := Go.Op.move (Go.Operand.tmp 0), type := 22, pos := "disk.go:108", after := #[], guard := none }) (v := ?v1_0) hNW (by decide) rfl (by kernel_rfl) (by kernel_rfl) (by kernel_rfl) (by kernel_rfl) (fun _ _ _ h => h) (Or.inl ⟨by kernel_rfl, ?h1_0⟩) (by assumption) ?r1_0
    case h1_0 => (intro wt hSw; obtain ⟨-, hs0, hs1, hs2, hs3⟩ := hSw; go_simp; try with_reducible rfl)
    simp only [Act.put, List.setIfInBounds_toArray, List.set_cons_zero, List.set_cons_succ]
    refine wpAnyF_take (i := 1) (oi := { dst := some 29, op := Go.Op.nilCheck (Go.Operand.tmp 28), type := 0, pos := "disk.go:108", after := #[{ on := 0, ground := Go.Ground.data }], guard := none }) (v := ?v1_1) hNW (by decide) rfl (by kernel_rfl) (by kernel_rfl) (by kernel_rfl) (by kernel_rfl) (fun _ _ _ h => h) (Or.inl ⟨by kernel_rfl, ?h1_1⟩) (by assumption) ?r1_1
    case h1_1 => (intro wt hSw; obtain ⟨-, hs0, hs1, hs2, hs3⟩ := hSw; go_simp; try with_reducible rfl)
    simp only [Act.put, List.setIfInBounds_toArray, List.set_cons_zero, List.set_cons_succ]
    refine wpAnyF_take (i := 2) (oi := { dst := some 30, op := Go.Op.fieldAddr 78 (Go.Operand.tmp 29) 2, type := 0, pos := "disk.go:108", after := #[{ on := 1, ground := Go.Ground.data }], guard := none }) (v := ?v1_2) hNW (by decide) rfl (by kernel_rfl) (by kernel_rfl) (by kernel_rfl) (by kernel_rfl) (fun _ _ _ h => h) (Or.inl ⟨by kernel_rfl, ?h1_2⟩) (by assumption) ?r1_2
    case h1_2 => (intro wt hSw; obtain ⟨-, hs0, hs1, hs2, hs3⟩ := hSw; go_simp; try with_reducible rfl)
    simp only [Act.put, List.setIfInBounds_toArray, List.set_cons_zero, List.set_cons_succ]
    refine wpAnyF_take (i := 3) (oi := { dst := some 31, op := Go.Op.load 76 (Go.Operand.tmp 30), type := 76, pos := "disk.go:108", after := #[{ on := 2, ground := Go.Ground.data }], guard := none }) (v := ?v1_3) hNW (by decide) rfl (by kernel_rfl) (by kernel_rfl) (by kernel_rfl) (by kernel_rfl) (fun _ _ _ h => h) (Or.inl ⟨by kernel_rfl, ?h1_3⟩) (by assumption) ?r1_3
    case h1_3 => (intro wt hSw; obtain ⟨-, hs0, hs1, hs2, hs3⟩ := hSw; go_simp; try with_reducible rfl)
    simp only [Act.put, List.setIfInBounds_toArray, List.set_cons_zero, List.set_cons_succ]
    refine wpAnyF_take (i := 4) (oi := { dst := some 32, op := Go.Op.move (Go.Operand.tmp 1), type := 3, pos := "disk.go:108", after := #[], guard := none }) (v := ?v1_4) hNW (by decide) rfl (by kernel_rfl) (by kernel_rfl) (by kernel_rfl) (by kernel_rfl) (fun _ _ _ h => h) (Or.inl ⟨by kernel_rfl, ?h1_4⟩) (by assumption) ?r1_4
    case h1_4 => (intro wt hSw; obtain ⟨-, hs0, hs1, hs2, hs3⟩ := hSw; go_simp; try with_reducible rfl)
    simp only [Act.put, List.setIfInBounds_toArray, List.set_cons_zero, List.set_cons_succ]
    refine wpAnyF_take (i := 5) (oi := { dst := some 33, op := Go.Op.indexAddr 76 (Go.Operand.tmp 31) (Go.Operand.tmp 32), type := 0, pos := "disk.go:108", after := #[{ on := 3, ground := Go.Ground.data }, { on := 4, ground := Go.Ground.data }], guard := none }) (v := ?v1_5) hNW (by decide) rfl (by kernel_rfl) (by kernel_rfl) (by kernel_rfl) (by kernel_rfl) (fun _ _ _ h => h) (Or.inl ⟨by kernel_rfl, ?h1_5⟩) (by assumption) ?r1_5
    case h1_5 => (intro wt hSw; obtain ⟨-, hs0, hs1, hs2, hs3⟩ := hSw; go_simp; try with_reducible rfl)
    simp only [Act.put, List.setIfInBounds_toArray, List.set_cons_zero, List.set_cons_succ]
    refine wpAnyF_take (i := 6) (oi := { dst := some 34, op := Go.Op.load 92 (Go.Operand.tmp 33), type := 92, pos := "disk.go:108", after := #[{ on := 5, ground := Go.Ground.data }], guard := none }) (v := ?v1_6) hNW (by decide) rfl (by kernel_rfl) (by kernel_rfl) (by kernel_rfl) (by kernel_rfl) (fun _ _ _ h => h) (Or.inl ⟨by kernel_rfl, ?h1_6⟩) (by assumption) ?r1_6
    case h1_6 => (intro wt hSw; obtain ⟨-, hs0, hs1, hs2, hs3⟩ := hSw; go_simp; try with_reducible rfl)
    simp only [Act.put, List.setIfInBounds_toArray, List.set_cons_zero, List.set_cons_succ]
    refine wpAnyF_take (i := 7) (oi := { dst := some 35, op := Go.Op.move (Go.Operand.tmp 2), type := 3, pos := "disk.go:108", after := #[], guard := none }) (v := ?v1_7) hNW (by decide) rfl (by kernel_rfl) (by kernel_rfl) (by kernel_rfl) (by kernel_rfl) (fun _ _ _ h => h) (Or.inl ⟨by kernel_rfl, ?h1_7⟩) (by assumption) ?r1_7
    case h1_7 => (intro wt hSw; obtain ⟨-, hs0, hs1, hs2, hs3⟩ := hSw; go_simp; try with_reducible rfl)
    simp only [Act.put, List.setIfInBounds_toArray, List.set_cons_zero, List.set_cons_succ]
    refine wpAnyF_take (i := 9) (oi := { dst := some 37, op := Go.Op.move (Go.Operand.tmp 0), type := 22, pos := "disk.go:108", after := #[], guard := none }) (v := ?v1_9) hNW (by decide) rfl (by kernel_rfl) (by kernel_rfl) (by kernel_rfl) (by kernel_rfl) (fun _ _ _ h => h) (Or.inl ⟨by kernel_rfl, ?h1_9⟩) (by assumption) ?r1_9
    case h1_9 => (intro wt hSw; obtain ⟨-, hs0, hs1, hs2, hs3⟩ := hSw; go_simp; try with_reducible rfl)
    simp only [Act.put, List.setIfInBounds_toArray, List.set_cons_zero, List.set_cons_succ]
    refine wpAnyF_take (i := 10) (oi := { dst := some 38, op := Go.Op.nilCheck (Go.Operand.tmp 37), type := 0, pos := "disk.go:108", after := #[{ on := 9, ground := Go.Ground.data }], guard := none }) (v := ?v1_10) hNW (by decide) rfl (by kernel_rfl) (by kernel_rfl) (by kernel_rfl) (by kernel_rfl) (fun _ _ _ h => h) (Or.inl ⟨by kernel_rfl, ?h1_10⟩) (by assumption) ?r1_10
    case h1_10 => (intro wt hSw; obtain ⟨-, hs0, hs1, hs2, hs3⟩ := hSw; go_simp; try with_reducible rfl)
    simp only [Act.put, List.setIfInBounds_toArray, List.set_cons_zero, List.set_cons_succ]
    refine wpAnyF_take (i := 11) (oi := { dst := some 39, op := Go.Op.fieldAddr 78 (Go.Operand.tmp 38) 0, type := 0, pos := "disk.go:108", after := #[{ on := 10, ground := Go.Ground.data }], guard := none }) (v := ?v1_11) hNW (by decide) rfl (by kernel_rfl) (by kernel_rfl) (by kernel_rfl) (by kernel_rfl) (fun _ _ _ h => h) (Or.inl ⟨by kernel_rfl, ?h1_11⟩) (by assumption) ?r1_11
    case h1_11 => (intro wt hSw; obtain ⟨-, hs0, hs1, hs2, hs3⟩ := hSw; go_simp; try with_reducible rfl)
    simp only [Act.put, List.setIfInBounds_toArray, List.set_cons_zero, List.set_cons_succ]
    refine wpAnyF_take (i := 12) (oi := { dst := some 40, op := Go.Op.load 30 (Go.Operand.tmp 39), type := 30, pos := "disk.go:108", after := #[{ on := 11, ground := Go.Ground.data }], guard := none }) (v := ?v1_12) hNW (by decide) rfl (by kernel_rfl) (by kernel_rfl) (by kernel_rfl) (by kernel_rfl) (fun _ _ _ h => h) (Or.inl ⟨by kernel_rfl, ?h1_12⟩) (by assumption) ?r1_12
    case h1_12 => (intro wt hSw; obtain ⟨-, hs0, hs1, hs2, hs3⟩ := hSw; go_simp; try with_reducible rfl)
    simp only [Act.put, List.setIfInBounds_toArray, List.set_cons_zero, List.set_cons_succ]
    refine wpAnyF_one (i := 8) (o := { dst := some 36, op := Go.Op.call { callee := Go.Callee.value (Go.Operand.func 43), args := #[Go.Operand.tmp 34, Go.Operand.tmp 35], argTypes := #[92, 3] }, type := 92, pos := "disk.go:108", after := #[{ on := 6, ground := Go.Ground.data }, { on := 7, ground := Go.Ground.data }], guard := none }) rfl rfl (by kernel_rfl) ?_
    refine step_callx (f := 43) (args := #[.agg #[.int .i64 at_, .slice (some ad) n2 c2x], .int .i64 torn]) (by first | kernel_rfl | go_simp) (HT1.out _) ?_
    rintro v' w2 ⟨rfl, hb2⟩
    have hBb : Below w1.heap.size w1 w2 := below_drewN (Below.refl _ _) 1 |>.trans hb2
    have hHeld2 := (show (fun w' => Hid (Below w1.heap.size w1 w') ∧ w'.cell? ⟨p, 0, none⟩ = some (.slice (some ⟨D.gs, 0, none⟩) L D.cs) ∧ w'.cell? ⟨p, 2, none⟩ = some (.slice (some ⟨g2, o2, none⟩) m cap) ∧ w'.cell? ⟨g2, o2 + k * 2, none⟩ = some (.int .i64 (at_ : Int)) ∧ w'.cell? ⟨g2, o2 + k * 2 + 1, none⟩ = some (.slice (some ad) n2 c2x)) w2 from ⟨hBb, cell_kept hBb p0, cell_kept hBb p2, cell_kept hBb d1, cell_kept hBb d2⟩)
    refine ⟨fun _ => hHeld2, ?_⟩
    simp only [Act.put, List.setIfInBounds_toArray, List.set_cons_zero, List.set_cons_succ]
    refine wpAnyF_one (i := 13) (o := { dst := some 41, op := Go.Op.call { callee := Go.Callee.value (Go.Operand.func 44), args := #[Go.Operand.tmp 36, Go.Operand.tmp 40], argTypes := #[92, 30] }, type := 0, pos := "disk.go:108", after := #[{ on := 8, ground := Go.Ground.data }, { on := 12, ground := Go.Ground.data }, { on := 8, ground := Go.Ground.chain }], guard := none }) rfl rfl (by kernel_rfl) ?_
    refine step_callx (f := 44) (args := #[.agg #[.int .i64 at_, .slice (some ad) k2 k2], .slice (some ⟨D.gs, 0, none⟩) L D.cs]) (by first | kernel_rfl | go_simp) (HT2.out _ hBb) ?_
    rintro v' w3 ⟨rfl, hQ1, hQ2⟩
    have HQ := hid (And.intro hQ1 hQ2)
    clear hQ1 hQ2
    refine ⟨fun h => absurd rfl h, ?_⟩
    simp only [Act.put]
    refine wpAnyF_done (by kernel_rfl) ?_ _
    clear hNW hHeld hHeld2 hBb
    have HE := hid (HEND.out w3 HQ.out.1 HQ.out.2)
    clear HQ HEND HT1 HT2 p0 p2 d1 d2
    go_wp2_with (go_at_call 45; refine HE.out.mono ?_; rintro e w4 ⟨rfl, ⟨z3, z4⟩, hZ⟩; have HZ := hid hZ; clear hZ)
    refine bodyPost_end (results_none Tryd.results23 _ _ _) rfl ?_
    exact ⟨rfl, HZ.out⟩
  · obtain rfl : k = m := by omega
    have HE := hid (HEND.out w1 HF1.out (by rw [HN.out hlt]; exact HO1.out))
    clear HT HW HSV HN c2 HROW HEND
    go_wp2_with (go_at_call 45; refine HE.out.mono ?_; rintro e w4 ⟨rfl, ⟨z3, z4⟩, hZ⟩; have HZ := hid hZ; clear hZ)
    refine bodyPost_end (results_none Tryd.results23 _ _ _) rfl ?_
    exact ⟨rfl, HZ.out⟩
end Go.Proofs.YtfhjiggaacgncaaDoor
