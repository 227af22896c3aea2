import Derived.Test.YtjeokomocopjhaaFa9
namespace Go.Proofs.Ytjeokomocopjhaa
open Go.RowKit Go.Maps
set_option maxRecDepth 100000

theorem Row.result2 {P : Program} {w : World} {g : Nat} {c : List Value} {t : TypeId} {fn : Func} {p u : Tmp} {ty : TypeId} (h : Row w g c t) (hr : fn.results = #[.cell p ty, .tmp u]) (tmps : Array Value) (hp : tmps.getD p undef = .pointer (some ⟨g, 0, none⟩)) (d : TypeDesc)
    (hu : P.underlying ty = some d) (hd : (match d with | .struct _ | .array _ _ => true | _ => false) = true) (hi : (P.info? ty).map (·.size) = some c.length) : (results fn tmps).run P w = .ok (.tuple #[.agg c.toArray, tmps.getD u undef]) w := by
  have hp' : tmps[p]?.getD undef = .pointer (some ⟨g, 0, none⟩) := by simpa using hp
  simp [results, hr, hp', asAddr, run_loadVar_row w g t ty c.toArray (0, 0) d h.at_ hu hd (by simpa using hi)]
theorem min3 (w : World) (ts : Array TypeId) (t : TypeId) (x y z : Int) : (Builtin.min_ ts t #[.int .i64 x, .int .i64 y, .int .i64 z]).run Try.prog w = .ok (.int .i64 (min (min x y) z)) w := by
  have e : (if z < if y < x then y else x then z else if y < x then y else x) = min (min x y) z := by
    rw [Int.min_def, Int.min_def]
    split <;> split <;> split <;> split <;> omega
  simp [Builtin.min_, Builtin.min2, e]
theorem i31 : (Try.prog.info? 31).map (·.size) = some 2 := by kernel_rfl
theorem upd_self {U : List Ln} (hU : Rising U) {x : Ln} (hx : x ∈ U) : upd U x.num x.s = U := by
  unfold upd
  have : ∀ y ∈ U, (if y.num = x.num then ({ y with s := x.s } : Ln) else y) = y := fun y hy => by
    by_cases e : y.num = x.num
    · rw [if_pos e, hU.inj hy hx e]
    · rw [if_neg e]
  exact (List.map_congr_left this).trans (List.map_id' U)
set_option maxHeartbeats 2000000 in
/-- There is no turn. -/
theorem next_none {w : World} {p b : Nat} {V : Nat → Value} {F : Fs} (h : FaAt w p b V F) {most : Int} (hE : (∀ k, k < 8 → F.R k = []) ∨ most < 1 ∧ ∀ w', Below w.heap.size w w' → Calls Try.prog 21 #[pt p 0] w' fun e w'' => ∃ g q, e = .returned (pt g 0) ∧ w'' = w'.drewN q) :
    Calls Try.prog 11 #[pt p 0, .int .i64 most] w fun e w' => e = .returned (.tuple #[.agg #[.int .u64 0, .int .i64 0], .bool false]) ∧ Below w.heap.size w w' := by
  have hb := below_box w (.cells #[.int .u64 0, .int .i64 0] 31)
  have R := Row.new w [.int .u64 0, .int .i64 0] 31
  rcases hE with hE | ⟨hm, hC⟩
  · have hF := first_none (h.below hb) hE
    have HB := hid2 hb
    have HR := hid2 R
    have r0 := R.cell 0 _ rfl
    have r1 := R.cell 1 _ rfl
    have f0 := R.frozen 0
    have f1 := R.frozen 1
    clear h hE hb R
    go_enter Try.func11, Try.ntmps11
    go_wp2_with (go_at_call 21; refine hF.mono ?_; rintro e w' ⟨rfl, rfl⟩)
    refine bodyPost_ret (HR.out.result2 Try.results11 _ rfl _ Try.underlying31 rfl i31) rfl ?_
    exact ⟨rfl, HB.out⟩
  · have hF := hC _ hb
    have HB := hid2 hb
    have HR := hid2 R
    have r0 := R.cell 0 _ rfl
    have r1 := R.cell 1 _ rfl
    have f0 := R.frozen 0
    have f1 := R.frozen 1
    have HS := hid2 ((Fr.refl (fun k => w.heap.size ≤ k) (w.alloc (.cells #[.int .u64 0, .int .i64 0] 31))).setCell w.heap.size 0 (.int .u64 0) (.inl (Nat.le_refl _)) |>.setCell w.heap.size 1 (.int .i64 0) (.inl (Nat.le_refl _)))
    have hn := eq58
    clear h hb R hC
    go_enter Try.func11, Try.ntmps11
    go_wp2_with (go_at_call 21; refine hF.mono ?_; rintro e w' ⟨g, q, rfl, rfl⟩)
    have RF := ((HR.out.drew q).set 0 (.int .u64 0)).set 1 (.int .i64 0)
    refine bodyPost_ret (RF.result2 Try.results11 _ rfl _ Try.underlying31 rfl i31) rfl ?_
    exact ⟨rfl, HB.out.trans ((HS.out.drewN q).below (fun _ e => e) HB.out.size)⟩
/-- A stream's credit as its turn has begun, what it is given, what it is behind that. -/
def Ln.cr1 (x : Ln) (q : Int) : Int := if x.s.cr = 0 then q * x.s.shr else x.s.cr
def Ln.tk (x : Ln) (q most : Int) : Int := min (min most x.s.wt) (x.cr1 q)
def Ln.aft (x : Ln) (q most : Int) : Ss := { x.s with wt := x.s.wt - x.tk q most, cr := x.cr1 q - x.tk q most }
/-- Behind a turn. -/
def Fs.next (F : Fs) (x : Ln) (most : Int) (B : List Int) : Fs :=
  if (x.aft F.q most).wt = 0 ∨ (x.aft F.q most).cr = 0 then ({ F with U := upd F.U x.num (x.aft F.q most) } : Fs).over { x with s := x.aft F.q most } [] B else { F with U := upd F.U x.num (x.aft F.q most) }
set_option maxHeartbeats 4000000 in
theorem next_some {w : World} {p b : Nat} {V : Nat → Value} {F : Fs} (h : FaAt w p b V F) {most : Int} (hm : 1 ≤ most) {x : Ln} (hx : x ∈ F.U) (hc : x.s.cls < 8) (hE : ∀ k, k < x.s.cls → F.R k = []) {B : List Int} (hR : F.R x.s.cls = x.num :: B) (hl : (F.R x.s.cls).length ≤ 1125899906842) (hn0 : 0 ≤ x.num) (hn1 : x.num ≤ 18446744073709551615)
    (hq0 : 1 ≤ F.q) (hq1 : F.q ≤ 65536) (hs0 : 1 ≤ x.s.shr) (hs1 : x.s.shr ≤ 255) (hw0 : 1 ≤ x.s.wt) (hw1 : x.s.wt ≤ 1099511627776) (hr0 : 0 ≤ x.s.cr) (hr1 : x.s.cr ≤ 16711680) :
    Calls Try.prog 11 #[pt p 0, .int .i64 most] w fun e w' => e = .returned (.tuple #[.agg #[.int .u64 x.num, .int .i64 (x.tk F.q most)], .bool true]) ∧ ∃ V', Mv p b V F w V' (F.next x most B) w' := by
  have hb := below_box w (.cells #[.int .u64 0, .int .i64 0] 31)
  have R := Row.new w [.int .u64 0, .int .i64 0] 31
  have hF := first_some (h.below hb) hc hE hR hn0 hn1 (fnd_of h.rise hx)
  have hC0 : 1 ≤ x.cr1 F.q ∧ x.cr1 F.q ≤ 16711680 := by
    unfold Ln.cr1
    split
    · constructor
      · have := Int.mul_le_mul hq0 hs0 (by omega) (by omega)
        omega
      · have := Int.mul_le_mul hq1 hs1 (by omega) (by omega)
        omega
    · omega
  have HC : Hid (x.cr1 F.q = if x.s.cr = 0 then F.q * x.s.shr else x.s.cr) := rfl
  have hT : 1 ≤ x.tk F.q most ∧ x.tk F.q most ≤ x.s.wt ∧ x.tk F.q most ≤ x.cr1 F.q ∧ x.tk F.q most ≤ most := by unfold Ln.tk; omega
  have hTN : ∀ (ts : Array TypeId) (t : TypeId) (W : World), (Builtin.min_ ts t #[.int .i64 most, .int .i64 x.s.wt, .int .i64 (x.cr1 F.q)]).run Try.prog W = .ok (.int .i64 (x.tk F.q most)) W := fun ts t W => min3 W ts t most x.s.wt (x.cr1 F.q)
  have HAF : Hid (x.aft F.q most = { x.s with wt := x.s.wt - x.tk F.q most, cr := x.cr1 F.q - x.tk F.q most }) := rfl
  have HNX : Hid (F.next x most B = if (x.aft F.q most).wt = 0 ∨ (x.aft F.q most).cr = 0 then ({ F with U := upd F.U x.num (x.aft F.q most) } : Fs).over { x with s := x.aft F.q most } [] B else { F with U := upd F.U x.num (x.aft F.q most) }) := rfl
  generalize F.next x most B = G at *
  generalize x.aft F.q most = S at *
  generalize x.tk F.q most = N at *
  generalize x.cr1 F.q = C at *
  obtain ⟨hC1, hC2⟩ := hC0
  obtain ⟨hT1, hT2, hT3, hT4⟩ := hT
  have HH := hid2 (h.below hb)
  have HB0 := hid2 hb
  have HR0 := hid2 R
  have HX := hid2 hx
  have HET : Hid (∀ W V', FaAt W p b V' { F with U := upd F.U x.num S } → Calls Try.prog 22 #[pt p 0, pt x.g 0] W fun e w' => e = .returned (.tuple #[]) ∧ ∃ V'', Mv p b V' { F with U := upd F.U x.num S } W V'' (({ F with U := upd F.U x.num S } : Fs).over { x with s := S } [] B) w') := fun W V' hW => by
    have hcl : S.cls = x.s.cls := by rw [HAF.out]
    exact endTurn_any (x := { x with s := S }) hW (mem_upd_self hx S) (by show S.cls < 8; rw [hcl]; exact hc) (by show (F.R S.cls).length ≤ _; rw [hcl]; exact hl) (A := []) (by show F.R S.cls = _; rw [hcl]; exact hR) List.not_mem_nil
  have hn := eq58
  clear h hb R hx hc hE hR hl
  go_enter Try.func11, Try.ntmps11
  by_cases hcz : x.s.cr = 0
  · have c4 : (w.alloc (.cells #[.int .u64 0, .int .i64 0] 31)).cell? ⟨x.g, 4, none⟩ = some (.int .i64 0) := by have := (HH.out.rows x HX.out).cell 4 _ rfl; rw [hcz] at this; exact this
    have y4 := (HH.out.rows x HX.out).frozen 4
    have c2 : (w.alloc (.cells #[.int .u64 0, .int .i64 0] 31)).cell? ⟨x.g, 2, none⟩ = some (.int .i64 x.s.shr) := (HH.out.rows x HX.out).cell 2 _ rfl
    have p0 := HH.out.row.cell 0 _ rfl
    have hCe : F.q * x.s.shr = C := by rw [HC.out, if_pos hcz]
    have HCE := hid2 hCe
    have hCw : wrap64 C = C := by unfold wrap64; omega
    go_upto_region 5 with (go_at_call 21; refine hF.mono ?_; rintro e w1 ⟨rfl, q, rfl⟩; clear hF)
    go_region
    go_upto_region 6 with fail
    refine wp_world ?_
    intro w2 hw2
    have M2 : Mv p b V F (w.alloc (.cells #[.int .u64 0, .int .i64 0] 31)) V { F with U := upd F.U x.num { x.s with cr := C } } w2 := by
      rw [hw2.out]
      exact ((((Mv.refl HH.out).drewN q).at_.turn HX.out 4 (.int .i64 C) (s := { x.s with cr := C }) rfl).drewN 1).ahead (below_drewN (Below.refl _ _) q)
    have R2 : Row w2 w.heap.size [.int .u64 0, .int .i64 0] 31 := by
      rw [hw2.out]
      have hg : w.heap.size ≠ x.g := fun e => absurd (cells_type HR0.out.at_ (e ▸ (HH.out.rows x HX.out).at_)) (by decide)
      exact ((HR0.out.drew q).setOther ⟨x.g, 4, none⟩ hg _).drew 1
    clear c4 y4 c2 p0 hCe hCw
    have X2 := M2.at_.rows _ (mem_upd_self HX.out { x.s with cr := C })
    have z3 : w2.cell? ⟨x.g, 3, none⟩ = some (.int .i64 x.s.wt) := X2.cell 3 _ rfl
    have z4 : w2.cell? ⟨x.g, 4, none⟩ = some (.int .i64 C) := X2.cell 4 _ rfl
    have y3 : w2.frozen? ⟨x.g, 3, none⟩ = false := X2.frozen 3
    have y4 : w2.frozen? ⟨x.g, 4, none⟩ = false := X2.frozen 4
    have HM2 := hid2 M2
    have HR2 := hid2 R2
    clear M2 R2 X2 hw2
    go_region
    go_upto_region 9 with fail
    refine wp_world ?_
    intro w4 hw4
    have M4 : Mv p b V F (w.alloc (.cells #[.int .u64 0, .int .i64 0] 31)) V { F with U := upd F.U x.num S } w4 := by
      rw [hw4.out]
      have m3 := HM2.out.at_.turn (mem_upd_self HX.out { x.s with cr := C }) 3 (.int .i64 (x.s.wt - N)) (s := { x.s with wt := x.s.wt - N, cr := C }) rfl
      have m4 := m3.at_.turn (mem_upd_self (mem_upd_self HX.out { x.s with cr := C }) { x.s with wt := x.s.wt - N, cr := C }) 4 (.int .i64 (C - N)) (s := { x.s with wt := x.s.wt - N, cr := C - N }) rfl
      have m5 := ((HM2.out.trans m3).trans m4).drewN 1
      simp only [upd_upd] at m5
      rw [HAF.out]
      exact m5
    have R4 : Row w4 w.heap.size [.int .u64 0, .int .i64 0] 31 := by
      rw [hw4.out]
      have hg : w.heap.size ≠ x.g := fun e => absurd (cells_type HR0.out.at_ (e ▸ (HH.out.rows x HX.out).at_)) (by decide)
      exact ((HR2.out.setOther ⟨x.g, 3, none⟩ hg _).setOther ⟨x.g, 4, none⟩ hg _).drew 1
    have X4 := M4.at_.rows _ (mem_upd_self HX.out S)
    have eS3 : S.wt = x.s.wt - N := by rw [HAF.out]
    have eS4 : S.cr = C - N := by rw [HAF.out]
    obtain ⟨D, hD⟩ : ∃ D, D = x.s.wt - N := ⟨_, rfl⟩
    obtain ⟨E, hE⟩ : ∃ E, E = C - N := ⟨_, rfl⟩
    have u3 : w4.cell? ⟨x.g, 3, none⟩ = some (.int .i64 D) := by rw [hD, ← eS3]; exact X4.cell 3 _ rfl
    have u4 : w4.cell? ⟨x.g, 4, none⟩ = some (.int .i64 E) := by rw [hE, ← eS4]; exact X4.cell 4 _ rfl
    have u0 : w4.cell? ⟨x.g, 0, none⟩ = some (.int .u64 x.num) := X4.cell 0 _ rfl
    have HM4 := hid2 M4
    have HR4 := hid2 R4
    have HE := hid2 (And.intro (eS3.trans hD.symm) (eS4.trans hE.symm))
    clear M4 R4 X4 hw4 eS3 eS4 z3 z4 y3 y4 HM2 HR2 hD hE
    by_cases hov : D = 0 ∨ E = 0
    · have HG : Hid (G = ({ F with U := upd F.U x.num S } : Fs).over { x with s := S } [] B) := by
        show _ = _
        rw [HNX.out, if_pos (by rw [HE.out.1, HE.out.2]; exact hov)]
      have HET4 := hid2 (HET.out _ _ HM4.out.at_)
      have HEND : Hid (∀ w5 V5, Mv p b V { F with U := upd F.U x.num S } w4 V5 (({ F with U := upd F.U x.num S } : Fs).over { x with s := S } [] B) w5 → w5.cell? ⟨x.g, 0, none⟩ = some (.int .u64 x.num) ∧ Row w5 w.heap.size [.int .u64 0, .int .i64 0] 31 ∧ Mv p b V F w V5 G w5) := fun w5 V5 m => by
        have hm5 := mem_upd_self (mem_upd_self HX.out S) S.over
        refine ⟨(m.at_.rows _ hm5).cell 0 _ rfl, m.fr.row HR4.out (HM4.out.at_.other HR4.out.at_ (by decide) (by decide) (by decide)), ?_⟩
        rw [HG.out]
        exact Mv.ahead HB0.out (HM4.out.trans m)
      clear HG HM4 HR4 HNX HE HAF
      by_cases hz : D = 0
      · clear hov
        subst hz
        go_upto_region 11 with (go_at_call 22; refine HET4.out.mono ?_; rintro e w5 ⟨rfl, V5, hM5⟩; have HE5 := hid2 (HEND.out _ _ hM5); clear hM5)
        have n0 := HE5.out.1
        have r0 := HE5.out.2.1.cell 0 _ rfl
        have r1 := HE5.out.2.1.cell 1 _ rfl
        have f0 := HE5.out.2.1.frozen 0
        have f1 := HE5.out.2.1.frozen 1
        go_wp2_with fail
        have RF := (HE5.out.2.1.set 0 (.int .u64 x.num)).set 1 (.int .i64 N)
        refine bodyPost_ret (RF.result2 Try.results11 _ rfl _ Try.underlying31 rfl i31) rfl ?_
        refine ⟨rfl, V5, HE5.out.2.2.at_.kept (S := fun k => k = w.heap.size) ?_ ?_, ?_, HE5.out.2.2.gr⟩
        · exact ((Fr.refl (fun k => k = w.heap.size) _).setCell w.heap.size 0 _ (.inl rfl)).setCell w.heap.size 1 _ (.inl rfl)
        · exact fun k hk e => HE5.out.2.2.at_.other HE5.out.2.1.at_ (by decide) (by decide) (by decide) (e ▸ hk)
        · exact (HE5.out.2.2.fr.setCell w.heap.size 0 _ (.inr (Nat.le_refl _))).setCell w.heap.size 1 _ (.inr (Nat.le_refl _))
      · have hz2 : E = 0 := by omega
        clear hov
        subst hz2
        go_upto_region 11 with (go_at_call 22; refine HET4.out.mono ?_; rintro e w5 ⟨rfl, V5, hM5⟩; have HE5 := hid2 (HEND.out _ _ hM5); clear hM5)
        have n0 := HE5.out.1
        have r0 := HE5.out.2.1.cell 0 _ rfl
        have r1 := HE5.out.2.1.cell 1 _ rfl
        have f0 := HE5.out.2.1.frozen 0
        have f1 := HE5.out.2.1.frozen 1
        go_wp2_with fail
        have RF := (HE5.out.2.1.set 0 (.int .u64 x.num)).set 1 (.int .i64 N)
        refine bodyPost_ret (RF.result2 Try.results11 _ rfl _ Try.underlying31 rfl i31) rfl ?_
        refine ⟨rfl, V5, HE5.out.2.2.at_.kept (S := fun k => k = w.heap.size) ?_ ?_, ?_, HE5.out.2.2.gr⟩
        · exact ((Fr.refl (fun k => k = w.heap.size) _).setCell w.heap.size 0 _ (.inl rfl)).setCell w.heap.size 1 _ (.inl rfl)
        · exact fun k hk e => HE5.out.2.2.at_.other HE5.out.2.1.at_ (by decide) (by decide) (by decide) (e ▸ hk)
        · exact (HE5.out.2.2.fr.setCell w.heap.size 0 _ (.inr (Nat.le_refl _))).setCell w.heap.size 1 _ (.inr (Nat.le_refl _))
    · have HG : Hid (G = { F with U := upd F.U x.num S }) := by
        show _ = _
        rw [HNX.out, if_neg (by rw [HE.out.1, HE.out.2]; exact hov)]
      have hz3 : ¬ D = 0 := by omega
      have hz4 : ¬ E = 0 := by omega
      have hz1 : (D == 0) = false := by simpa using hz3
      have hz2 : (E == 0) = false := by simpa using hz4
      clear hz3 hz4
      have HE5 : Hid (w4.cell? ⟨x.g, 0, none⟩ = some (.int .u64 x.num) ∧ Row w4 w.heap.size [.int .u64 0, .int .i64 0] 31 ∧ Mv p b V F w V G w4) := ⟨u0, HR4.out, by rw [HG.out]; exact Mv.ahead HB0.out HM4.out⟩
      clear HG HM4 HR4 HNX HE HAF HET hov
      go_upto_region 11 with fail
      have n0 := HE5.out.1
      have r0 := HE5.out.2.1.cell 0 _ rfl
      have r1 := HE5.out.2.1.cell 1 _ rfl
      have f0 := HE5.out.2.1.frozen 0
      have f1 := HE5.out.2.1.frozen 1
      go_wp2_with fail
      have RF := (HE5.out.2.1.set 0 (.int .u64 x.num)).set 1 (.int .i64 N)
      refine bodyPost_ret (RF.result2 Try.results11 _ rfl _ Try.underlying31 rfl i31) rfl ?_
      refine ⟨rfl, V, HE5.out.2.2.at_.kept (S := fun k => k = w.heap.size) ?_ ?_, ?_, HE5.out.2.2.gr⟩
      · exact ((Fr.refl (fun k => k = w.heap.size) _).setCell w.heap.size 0 _ (.inl rfl)).setCell w.heap.size 1 _ (.inl rfl)
      · exact fun k hk e => HE5.out.2.2.at_.other HE5.out.2.1.at_ (by decide) (by decide) (by decide) (e ▸ hk)
      · exact (HE5.out.2.2.fr.setCell w.heap.size 0 _ (.inr (Nat.le_refl _))).setCell w.heap.size 1 _ (.inr (Nat.le_refl _))
  · have hCe : x.s.cr = C := by rw [HC.out, if_neg hcz]
    have c4 : (w.alloc (.cells #[.int .u64 0, .int .i64 0] 31)).cell? ⟨x.g, 4, none⟩ = some (.int .i64 C) := by have := (HH.out.rows x HX.out).cell 4 _ rfl; rw [hCe] at this; exact this
    have HCE := hid2 hCe
    have hCz : ¬ C = 0 := by omega
    clear hcz hCe
    go_upto_region 6 with (go_at_call 21; refine hF.mono ?_; rintro e w1 ⟨rfl, q, rfl⟩; clear hF)
    refine wp_world ?_
    intro w2 hw2
    have M2 : Mv p b V F (w.alloc (.cells #[.int .u64 0, .int .i64 0] 31)) V { F with U := upd F.U x.num { x.s with cr := C } } w2 := by
      rw [hw2.out, show ({ x.s with cr := C } : Ss) = x.s by rw [← HCE.out], upd_self HH.out.rise HX.out]
      exact (Mv.refl HH.out).drewN q
    have R2 : Row w2 w.heap.size [.int .u64 0, .int .i64 0] 31 := by
      rw [hw2.out]
      exact HR0.out.drew q
    clear c4
    have X2 := M2.at_.rows _ (mem_upd_self HX.out { x.s with cr := C })
    have z3 : w2.cell? ⟨x.g, 3, none⟩ = some (.int .i64 x.s.wt) := X2.cell 3 _ rfl
    have z4 : w2.cell? ⟨x.g, 4, none⟩ = some (.int .i64 C) := X2.cell 4 _ rfl
    have y3 : w2.frozen? ⟨x.g, 3, none⟩ = false := X2.frozen 3
    have y4 : w2.frozen? ⟨x.g, 4, none⟩ = false := X2.frozen 4
    have HM2 := hid2 M2
    have HR2 := hid2 R2
    clear M2 R2 X2 hw2
    go_region
    go_upto_region 9 with fail
    refine wp_world ?_
    intro w4 hw4
    have M4 : Mv p b V F (w.alloc (.cells #[.int .u64 0, .int .i64 0] 31)) V { F with U := upd F.U x.num S } w4 := by
      rw [hw4.out]
      have m3 := HM2.out.at_.turn (mem_upd_self HX.out { x.s with cr := C }) 3 (.int .i64 (x.s.wt - N)) (s := { x.s with wt := x.s.wt - N, cr := C }) rfl
      have m4 := m3.at_.turn (mem_upd_self (mem_upd_self HX.out { x.s with cr := C }) { x.s with wt := x.s.wt - N, cr := C }) 4 (.int .i64 (C - N)) (s := { x.s with wt := x.s.wt - N, cr := C - N }) rfl
      have m5 := ((HM2.out.trans m3).trans m4).drewN 1
      simp only [upd_upd] at m5
      rw [HAF.out]
      exact m5
    have R4 : Row w4 w.heap.size [.int .u64 0, .int .i64 0] 31 := by
      rw [hw4.out]
      have hg : w.heap.size ≠ x.g := fun e => absurd (cells_type HR0.out.at_ (e ▸ (HH.out.rows x HX.out).at_)) (by decide)
      exact ((HR2.out.setOther ⟨x.g, 3, none⟩ hg _).setOther ⟨x.g, 4, none⟩ hg _).drew 1
    have X4 := M4.at_.rows _ (mem_upd_self HX.out S)
    have eS3 : S.wt = x.s.wt - N := by rw [HAF.out]
    have eS4 : S.cr = C - N := by rw [HAF.out]
    obtain ⟨D, hD⟩ : ∃ D, D = x.s.wt - N := ⟨_, rfl⟩
    obtain ⟨E, hE⟩ : ∃ E, E = C - N := ⟨_, rfl⟩
    have u3 : w4.cell? ⟨x.g, 3, none⟩ = some (.int .i64 D) := by rw [hD, ← eS3]; exact X4.cell 3 _ rfl
    have u4 : w4.cell? ⟨x.g, 4, none⟩ = some (.int .i64 E) := by rw [hE, ← eS4]; exact X4.cell 4 _ rfl
    have u0 : w4.cell? ⟨x.g, 0, none⟩ = some (.int .u64 x.num) := X4.cell 0 _ rfl
    have HM4 := hid2 M4
    have HR4 := hid2 R4
    have HE := hid2 (And.intro (eS3.trans hD.symm) (eS4.trans hE.symm))
    clear M4 R4 X4 hw4 eS3 eS4 z3 z4 y3 y4 HM2 HR2 hD hE
    by_cases hov : D = 0 ∨ E = 0
    · have HG : Hid (G = ({ F with U := upd F.U x.num S } : Fs).over { x with s := S } [] B) := by
        show _ = _
        rw [HNX.out, if_pos (by rw [HE.out.1, HE.out.2]; exact hov)]
      have HET4 := hid2 (HET.out _ _ HM4.out.at_)
      have HEND : Hid (∀ w5 V5, Mv p b V { F with U := upd F.U x.num S } w4 V5 (({ F with U := upd F.U x.num S } : Fs).over { x with s := S } [] B) w5 → w5.cell? ⟨x.g, 0, none⟩ = some (.int .u64 x.num) ∧ Row w5 w.heap.size [.int .u64 0, .int .i64 0] 31 ∧ Mv p b V F w V5 G w5) := fun w5 V5 m => by
        have hm5 := mem_upd_self (mem_upd_self HX.out S) S.over
        refine ⟨(m.at_.rows _ hm5).cell 0 _ rfl, m.fr.row HR4.out (HM4.out.at_.other HR4.out.at_ (by decide) (by decide) (by decide)), ?_⟩
        rw [HG.out]
        exact Mv.ahead HB0.out (HM4.out.trans m)
      clear HG HM4 HR4 HNX HE HAF
      by_cases hz : D = 0
      · clear hov
        subst hz
        go_upto_region 11 with (go_at_call 22; refine HET4.out.mono ?_; rintro e w5 ⟨rfl, V5, hM5⟩; have HE5 := hid2 (HEND.out _ _ hM5); clear hM5)
        have n0 := HE5.out.1
        have r0 := HE5.out.2.1.cell 0 _ rfl
        have r1 := HE5.out.2.1.cell 1 _ rfl
        have f0 := HE5.out.2.1.frozen 0
        have f1 := HE5.out.2.1.frozen 1
        go_wp2_with fail
        have RF := (HE5.out.2.1.set 0 (.int .u64 x.num)).set 1 (.int .i64 N)
        refine bodyPost_ret (RF.result2 Try.results11 _ rfl _ Try.underlying31 rfl i31) rfl ?_
        refine ⟨rfl, V5, HE5.out.2.2.at_.kept (S := fun k => k = w.heap.size) ?_ ?_, ?_, HE5.out.2.2.gr⟩
        · exact ((Fr.refl (fun k => k = w.heap.size) _).setCell w.heap.size 0 _ (.inl rfl)).setCell w.heap.size 1 _ (.inl rfl)
        · exact fun k hk e => HE5.out.2.2.at_.other HE5.out.2.1.at_ (by decide) (by decide) (by decide) (e ▸ hk)
        · exact (HE5.out.2.2.fr.setCell w.heap.size 0 _ (.inr (Nat.le_refl _))).setCell w.heap.size 1 _ (.inr (Nat.le_refl _))
      · have hz2 : E = 0 := by omega
        clear hov
        subst hz2
        go_upto_region 11 with (go_at_call 22; refine HET4.out.mono ?_; rintro e w5 ⟨rfl, V5, hM5⟩; have HE5 := hid2 (HEND.out _ _ hM5); clear hM5)
        have n0 := HE5.out.1
        have r0 := HE5.out.2.1.cell 0 _ rfl
        have r1 := HE5.out.2.1.cell 1 _ rfl
        have f0 := HE5.out.2.1.frozen 0
        have f1 := HE5.out.2.1.frozen 1
        go_wp2_with fail
        have RF := (HE5.out.2.1.set 0 (.int .u64 x.num)).set 1 (.int .i64 N)
        refine bodyPost_ret (RF.result2 Try.results11 _ rfl _ Try.underlying31 rfl i31) rfl ?_
        refine ⟨rfl, V5, HE5.out.2.2.at_.kept (S := fun k => k = w.heap.size) ?_ ?_, ?_, HE5.out.2.2.gr⟩
        · exact ((Fr.refl (fun k => k = w.heap.size) _).setCell w.heap.size 0 _ (.inl rfl)).setCell w.heap.size 1 _ (.inl rfl)
        · exact fun k hk e => HE5.out.2.2.at_.other HE5.out.2.1.at_ (by decide) (by decide) (by decide) (e ▸ hk)
        · exact (HE5.out.2.2.fr.setCell w.heap.size 0 _ (.inr (Nat.le_refl _))).setCell w.heap.size 1 _ (.inr (Nat.le_refl _))
    · have HG : Hid (G = { F with U := upd F.U x.num S }) := by
        show _ = _
        rw [HNX.out, if_neg (by rw [HE.out.1, HE.out.2]; exact hov)]
      have hz3 : ¬ D = 0 := by omega
      have hz4 : ¬ E = 0 := by omega
      have hz1 : (D == 0) = false := by simpa using hz3
      have hz2 : (E == 0) = false := by simpa using hz4
      clear hz3 hz4
      have HE5 : Hid (w4.cell? ⟨x.g, 0, none⟩ = some (.int .u64 x.num) ∧ Row w4 w.heap.size [.int .u64 0, .int .i64 0] 31 ∧ Mv p b V F w V G w4) := ⟨u0, HR4.out, by rw [HG.out]; exact Mv.ahead HB0.out HM4.out⟩
      clear HG HM4 HR4 HNX HE HAF HET hov
      go_upto_region 11 with fail
      have n0 := HE5.out.1
      have r0 := HE5.out.2.1.cell 0 _ rfl
      have r1 := HE5.out.2.1.cell 1 _ rfl
      have f0 := HE5.out.2.1.frozen 0
      have f1 := HE5.out.2.1.frozen 1
      go_wp2_with fail
      have RF := (HE5.out.2.1.set 0 (.int .u64 x.num)).set 1 (.int .i64 N)
      refine bodyPost_ret (RF.result2 Try.results11 _ rfl _ Try.underlying31 rfl i31) rfl ?_
      refine ⟨rfl, V, HE5.out.2.2.at_.kept (S := fun k => k = w.heap.size) ?_ ?_, ?_, HE5.out.2.2.gr⟩
      · exact ((Fr.refl (fun k => k = w.heap.size) _).setCell w.heap.size 0 _ (.inl rfl)).setCell w.heap.size 1 _ (.inl rfl)
      · exact fun k hk e => HE5.out.2.2.at_.other HE5.out.2.1.at_ (by decide) (by decide) (by decide) (e ▸ hk)
      · exact (HE5.out.2.2.fr.setCell w.heap.size 0 _ (.inr (Nat.le_refl _))).setCell w.heap.size 1 _ (.inr (Nat.le_refl _))
end Go.Proofs.Ytjeokomocopjhaa
