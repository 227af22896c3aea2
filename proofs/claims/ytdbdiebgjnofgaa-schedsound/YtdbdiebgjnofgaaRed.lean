import Derived.Test.YtdbdiebgjnofgaaBl1
namespace Go.Proofs.Ytdbdiebgjnofgaa
open Go.RowKit Go.Maps Go.Sort
set_option maxRecDepth 100000

theorem eg61 : ∀ args w, (callFunc 61 args).run Try.prog w = .ok (.enter 61 args) w := enters_of Try.func61 (by kernel_rfl) rfl
theorem eg62 : ∀ args w, (callFunc 62 args).run Try.prog w = .ok (.enter 62 args) w := enters_of Try.func62 (by kernel_rfl) rfl
def redT (L : List Pv) (p : Pv) : Bool := p.h && rdy L p
set_option maxHeartbeats 1000000 in
theorem red1_any (w : World) (p : Pv) {c : Nat} {f0 : Value} {T : Pv → Bool} (hc : w.cell? ⟨c, 0, none⟩ = some (.func (.func 51) #[] #[f0])) (hT : IsT w 51 [f0] T) : Calls Try.prog 61 #[p.val, .pointer (some ⟨c, 0, none⟩)] w fun e w' => e = .returned (.bool (p.h && T p)) ∧ Below w.heap.size w w' := by
  have h1 := fun w' (hb : Below w.heap.size w w') => hT w' p hb
  generalize T p = x at *
  obtain ⟨u, b, k, s, wi, i, h, off, len, fin, on, held⟩ := p
  simp only [Pv.val, Pv.cells] at h1 ⊢
  generalize Value.slice on.a on.n on.c = on at *
  have HB := hid (below_grow (Below.refl w.heap.size w) (.cells #[.bool u, .bool b, .bool k, .int .u64 s, .int .i64 wi, .int .i64 i, .bool h, .int .u64 off, .int .i64 len, .bool fin, on, .bool held] 43))
  have hl := World.block_lt_of_cell? w _ hc
  have c1 := cell_kept HB.out hc
  have H1 := hid (h1 _ HB.out)
  have eg := eg51
  clear h1 hT hc
  cases h
  · go_enter Try.func61, Try.ntmps61
    go_wp2
    go_ret
    exact ⟨rfl, HB.out⟩
  · go_enter Try.func61, Try.ntmps61
    go_wp2_with (go_at_fn 51; refine H1.out.mono ?_; rintro e w' ⟨rfl, hb⟩; have HB1 := hid (HB.out.trans (hb.mono HB.out.size)); clear hb)
    go_ret
    exact ⟨by first | rfl | simp, HB1.out⟩
theorem red2_any (w : World) (p : Pv) : Calls Try.prog 62 #[p.val] w fun e w' => e = .returned (.int .u64 p.c.off) ∧ Below w.heap.size w w' := by
  obtain ⟨u, b, k, s, wi, i, h, off, len, fin, on, held⟩ := p
  simp only [Pv.val, Pv.cells]
  generalize Value.slice on.a on.n on.c = on
  have HB := hid (below_grow (Below.refl w.heap.size w) (.cells #[.bool u, .bool b, .bool k, .int .u64 s, .int .i64 wi, .int .i64 i, .bool h, .int .u64 off, .int .i64 len, .bool fin, on, .bool held] 43))
  go_enter Try.func62, Try.ntmps62
  go_wp2
  go_ret
  exact ⟨rfl, HB.out⟩
def Vw.hind (V : Vw) : Int := bst (redT V.L) (fun p => p.c.off) V.L V.L.length
def redO (V : Vw) : Option Pk := if V.hind < 0 then none else some ⟨V.hind, (pth V.L V.hind.toNat).c.off, (pth V.L V.hind.toNat).c.len⟩
set_option maxHeartbeats 4000000 in
theorem red_any {w : World} {V : Vw} (h : VwAt w V) : Calls Try.prog 60 #[.agg #[], V.val] w fun e w' => e = .returned (pkv (redO V)) ∧ Below w.heap.size w w' := by
  obtain ⟨O, hO⟩ : ∃ O, O = redO V := ⟨_, rfl⟩
  rw [← hO]
  unfold redO Vw.hind at hO
  obtain ⟨a, cap, L, has, want, edge, mss⟩ := V
  obtain ⟨hA, hF⟩ := h
  simp only [Vw.val, Vw.cells] at hA hF hO ⊢
  obtain ⟨n, hn⟩ : ∃ n, L.length = n := ⟨_, rfl⟩
  rw [hn] at hF hO ⊢
  have HAt := hid hA
  have HN := hid hn
  have HF := hid hF
  have HO := hid hO
  clear hA hn hF hO
  go_enter Try.func60, Try.ntmps60
  go_upto_region 1 with fail
  refine wp_world fun W HW => ?_
  obtain ⟨x, hx⟩ : ∃ x, x = w.heap.size + 1 := ⟨_, rfl⟩
  obtain ⟨y, hy⟩ : ∃ y, y = w.heap.size + 1 + 1 := ⟨_, rfl⟩
  have HY : Hid (w.heap.size ≤ y) := by show _ ≤ _; omega
  have HS : Hid (St w x y [.slice a n cap, .bool has, .int .u64 want.off, .int .i64 want.len, .bool want.fin, .slice want.on.a want.on.n want.on.c, .bool want.held, .int .u64 edge, .int .i64 mss] a L W) := by
    have hb : Below w.heap.size w W := by rw [HW.out]; exact (((Below.refl _ _).alloc (Nat.le_refl _) _).alloc (by simp) _).alloc (by simp; omega) _
    refine ⟨hb, ?_, ?_, HAt.out.kept hb⟩
    · rw [HW.out, hx]; exact (Row.new' _ _ _ _ _ (by simp) rfl).alloc _
    · rw [HW.out, hy]; exact Row.new' _ _ _ _ _ (by simp) rfl
  have ne1 : ¬ x = y := by omega
  have ne2 : ¬ y = x := by omega
  rw [← hy, ← hx]
  clear HW hx hy HAt
  obtain ⟨b0, b1, b2, b3, b4, b5, b6, b7, b8⟩ := HS.out.cells
  go_upto_region 2 with (go_at_call 47; refine (ready_any HS.out.at_ n cap HN.out (by have := HF.out; omega)).mono ?_; rintro e w1 ⟨hb1, c, rfl, hT⟩; have HT := hid hT; replace HS := hid (HS.out.kept hb1); clear hT hb1 b0 b1 b2 b3 b4 b5 b6 b7 b8)
  refine wp_world fun W2 HW => ?_
  obtain ⟨c2, hc2⟩ : ∃ c, c = w1.heap.size := ⟨_, rfl⟩
  have hb2 : Below w1.heap.size w1 W2 := by rw [HW.out]; exact (Below.refl _ _).alloc (Nat.le_refl _) _
  have HC2 : Hid (W2.cell? ⟨c2, 0, none⟩ = some (.func (.func 51) #[] #[c])) := by show _ = _; rw [HW.out, hc2]; exact (Row.new _ [.func (.func 51) #[] #[c]] _).cell 0 _ rfl
  have HT2 : Hid (IsT W2 61 [.pointer (some ⟨c2, 0, none⟩)] (redT L)) := fun w' p hb => red1_any w' p (cell_kept hb HC2.out) ((HT.out.kept hb2).kept hb)
  replace HS := hid (HS.out.kept hb2)
  rw [← hc2]
  clear HW hc2 hb2 HC2 HT
  obtain ⟨b0, b1, b2, b3, b4, b5, b6, b7, b8⟩ := HS.out.cells
  obtain ⟨F, hF⟩ : ∃ F, bst (redT L) (fun p => p.c.off) L n = F := ⟨_, rfl⟩
  have hfb := bst_bd (redT L) (fun p => p.c.off) L n
  rw [hF] at hfb HO
  have HFE := hid hF
  clear hF
  go_upto_region 4 with (go_at_call 48; refine (least_any HS.out.at_ n cap HN.out (by have := HF.out; omega) HT2.out (m := 62) (M := fun p => p.c.off) (fun w' p _ => red2_any w' p) eg61 eg62).mono ?_; rintro e w3 ⟨rfl, hb3⟩; rw [HFE.out]; replace HS := hid (HS.out.kept hb3); clear hb3 HT2 b0 b1 b2 b3 b4 b5 b6 b7 b8; obtain ⟨b0, b1, b2, b3, b4, b5, b6, b7, b8⟩ := HS.out.cells)
  by_cases hF0 : F < 0
  · have HR : Hid (O = none) := by show _ = _; rw [HO.out, if_pos hF0]
    obtain ⟨⟨y0, y1, y2⟩, z0, z1, z2⟩ := HS.out.res
    go_wp2_with fail
    refine bodyPost_ret (Row.result2 (HS.out.setRes HY.out ⟨0, 0, 0⟩).1 Try.results60 _ rfl _ Try.underlying36 rfl i36) rfl ⟨by rw [HR.out]; rfl, (HS.out.setRes HY.out ⟨0, 0, 0⟩).2⟩
  · obtain ⟨k, rfl⟩ : ∃ k : Nat, F = k := ⟨F.toNat, by omega⟩
    have hkl : k < L.length := by have := HN.out; omega
    have hkn : (k : Int) < n := by omega
    rw [if_neg hF0, Int.toNat_natCast, pth_eq hkl] at HO
    obtain ⟨g, o, rfl, q0, q1, q2, q3, q4, q5, q6, q7, q8, q9, q10, q11⟩ := HS.out.at_.cell hkl
    obtain ⟨P, hP⟩ : ∃ P, L[k] = P := ⟨_, rfl⟩
    rw [hP] at q7 q8 q9 q10 q11 HO
    have HSN := hid (fun w => send_yes w P.c k hF0)
    simp only [Cu.val, Cu.cells] at HSN
    clear hP q0 q1 q2 q3 q4 q5 q6
    go_wp2_with (go_at_call 45; refine (HSN.out _).mono ?_; rintro e w9 ⟨rfl, hb9⟩; replace HS := hid (HS.out.kept hb9); clear hb9 b0 b1 b2 b3 b4 b5 b6 b7 b8 q7 q8 q9 q10 q11; obtain ⟨⟨y0, y1, y2⟩, z0, z1, z2⟩ := HS.out.res)
    refine bodyPost_ret (Row.result2 (HS.out.setRes HY.out ⟨k, P.c.off, P.c.len⟩).1 Try.results60 _ rfl _ Try.underlying36 rfl i36) rfl ⟨by rw [HO.out]; rfl, (HS.out.setRes HY.out ⟨k, P.c.off, P.c.len⟩).2⟩
theorem eg60 : ∀ args w, (callFunc 60 args).run Try.prog w = .ok (.enter 60 args) w := enters_of Try.func60 (by kernel_rfl) rfl
theorem next2_any {w : World} {s : Nat} {V : Vw} (h : VwAt w V) (hs : Row w s [.iface 64 (.agg #[])] 33) : Calls Try.prog 11 #[.pointer (some ⟨s, 0, none⟩), V.val] w fun e w' => e = .returned (pkv (redO V)) ∧ Below w.heap.size w w' :=
  (next_by (T := 64) (f := 60) (S := fun _ => False) (R := fun _ => True) (hs.cell 0 _ rfl) (fun _ => by kernel_rfl) eg60 (fun _ e => e.elim) (fun _ _ _ _ => trivial) (fun e => e)
    (fun w' hb => (red_any (h.kept hb)).mono (by rintro e w2 ⟨rfl, hb2⟩; exact ⟨rfl, fr0 hb2, trivial⟩))).mono (by rintro e w2 ⟨rfl, hf, _⟩; exact ⟨rfl, below_fr hf (fun _ e => e)⟩)
end Go.Proofs.Ytdbdiebgjnofgaa
