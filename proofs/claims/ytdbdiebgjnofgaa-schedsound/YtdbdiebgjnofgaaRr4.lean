import Derived.Test.YtdbdiebgjnofgaaRr3
namespace Go.Proofs.Ytdbdiebgjnofgaa
open Go.RowKit Go.Maps Go.Sort
set_option maxRecDepth 100000

theorem turns_det {ws : List Int} {T : Pv → Bool} {L : List Pv} {t l a b : Int} (h : Turns ws T L t l a b) : ∀ {a' b' : Int}, Turns ws T L t l a' b' → a = a' ∧ b = b' := by
  induction h with
  | stop hs =>
    intro a' b' k
    cases k with
    | stop => exact ⟨rfl, rfl⟩
    | step h2 => rw [hs] at h2; cases h2
  | step hs _ ih =>
    intro a' b' k
    cases k with
    | stop h2 => rw [hs] at h2; cases h2
    | step _ k => exact ih k
theorem turns_ex (ws : List Int) {T : Pv → Bool} {L : List Pv} {i : Nat} (hi : i < L.length) (hT : T (pth L i) = true) : ∀ (k : Nat) (t l : Int), 0 ≤ t → dist L i t l ≤ k → ∃ t' l', Turns ws T L t l t' l' := by
  intro k
  induction k with
  | zero =>
    intro t l h0 hd
    cases hs : stay T L t l with
    | true => exact ⟨t, l, .stop hs⟩
    | false => have := dist_lt (ws := ws) hi hT h0 hs; omega
  | succ k ih =>
    intro t l h0 hd
    cases hs : stay T L t l with
    | true => exact ⟨t, l, .stop hs⟩
    | false =>
      have h1 := dist_lt (ws := ws) hi hT h0 hs
      obtain ⟨t', l', h2⟩ := ih (nxt L.length t) (wgt ws (nxt L.length t)) (nxt_bd h0 (by omega)).1 (by omega)
      exact ⟨t', l', .step hs h2⟩
theorem turns_any (ws : List Int) {T : Pv → Bool} {L : List Pv} (h : L.any T = true) {t : Int} (h0 : 0 ≤ t) (l : Int) : ∃ t' l', Turns ws T L t l t' l' := by
  obtain ⟨p, hp, hq⟩ := List.any_eq_true.1 h
  obtain ⟨i, hi, rfl⟩ := List.getElem_of_mem hp
  exact turns_ex ws hi (by rw [pth_eq hi]; exact hq) _ t l h0 (Nat.le_refl _)
theorem turns_end {ws : List Int} {T : Pv → Bool} {L : List Pv} {t l a b : Int} (h : Turns ws T L t l a b) : stay T L a b = true := by
  induction h with
  | stop hs => exact hs
  | step _ _ ih => exact ih
theorem turns_lo {ws : List Int} {T : Pv → Bool} {L : List Pv} {t l a b : Int} (h : Turns ws T L t l a b) (h0 : 0 ≤ t) : 0 ≤ a := by
  induction h with
  | stop hs => exact h0
  | step _ _ ih => exact ih (by unfold nxt; split <;> omega)
set_option maxHeartbeats 2000000 in
theorem rrnext_no {w : World} {r : Nat} {V : Vw} (hV : VwAt w V) (hn : V.has = false ∨ V.L.any (rdy V.L) = false) :
    Calls Try.prog 57 #[.pointer (some ⟨r, 0, none⟩), V.val] w fun e w' => e = .returned (pkv none) ∧ Below w.heap.size w w' := by
  obtain ⟨a, cap, L, has, want, edge, mss⟩ := V
  obtain ⟨hA, hF⟩ := hV
  simp only [Vw.val, Vw.cells] at hA hF hn ⊢
  obtain ⟨n, hN⟩ : ∃ n, L.length = n := ⟨_, rfl⟩
  rw [hN] at hF ⊢
  have HN := hid hN
  have HF := hid hF
  have HA := hid hA
  have HNO := hid hn
  clear hA hN hF hn
  go_enter Try.func57, Try.ntmps57
  go_upto_region 1 with fail
  refine wp_world fun W HW => ?_
  obtain ⟨x, hx⟩ : ∃ x, x = w.heap.size := ⟨_, rfl⟩
  obtain ⟨y, hy⟩ : ∃ y, y = w.heap.size + 1 := ⟨_, rfl⟩
  have HY : Hid (w.heap.size ≤ y) := by show _ ≤ _; omega
  have HS : Hid (St w x y [.slice a n cap, .bool has, .int .u64 want.off, .int .i64 want.len, .bool want.fin, .slice want.on.a want.on.n want.on.c, .bool want.held, .int .u64 edge, .int .i64 mss] a L W) := by
    have hb : Below w.heap.size w W := by rw [HW.out]; exact ((Below.refl _ _).alloc (Nat.le_refl _) _).alloc (by simp) _
    refine ⟨hb, ?_, ?_, HA.out.kept hb⟩
    · rw [HW.out, hx]; exact (Row.new _ _ _).alloc _
    · rw [HW.out, hy]; exact Row.new' _ _ _ _ _ (by simp) rfl
  have n1 : ¬ x = y := by omega
  have n2 : ¬ y = x := by omega
  rw [← hy, ← hx]
  clear HW hx hy HA
  obtain ⟨b0, b1, b2, b3, b4, b5, b6, b7, b8⟩ := HS.out.cells
  go_upto_region 2 with (go_at_call 47; refine (ready_any HS.out.at_ n cap HN.out (by have := HF.out; omega)).mono ?_; rintro e w1 ⟨hb1, c, rfl, hT⟩; have HT := hid hT; replace HS := hid (HS.out.kept hb1); clear hT hb1 b0 b1 b2 b3 b4 b5 b6 b7 b8; obtain ⟨b0, b1, b2, b3, b4, b5, b6, b7, b8⟩ := HS.out.cells)
  have HCO := hid (contains_one HS.out.at_ n cap HN.out (by have := HF.out; omega) HT.out eg51)
  cases has with
  | false =>
    obtain ⟨⟨y0, y1, y2⟩, z0, z1, z2⟩ := HS.out.res
    go_wp2_with fail
    refine bodyPost_ret (Row.result2 (((HS.out.p.set 0 (.int .i64 0)).set 1 (.int .u64 0)).set 2 (.int .i64 0)) Try.results57 _ rfl _ Try.underlying36 rfl i36) rfl ⟨rfl, ((HS.out.b.setCell (p := ⟨y, 0, none⟩) HY.out _).setCell (p := ⟨y, 1, none⟩) HY.out _).setCell (p := ⟨y, 2, none⟩) HY.out _⟩
  | true =>
    rw [show L.any (rdy L) = false from HNO.out.resolve_left (by decide)] at HCO
    go_wp2_with (go_at_call 53; refine HCO.out.mono ?_; rintro e w2 ⟨rfl, hb2⟩; replace HS := hid (HS.out.kept hb2); clear hb2 HCO b0 b1 b2 b3 b4 b5 b6 b7 b8; obtain ⟨⟨y0, y1, y2⟩, z0, z1, z2⟩ := HS.out.res)
    refine bodyPost_ret (Row.result2 (((HS.out.p.set 0 (.int .i64 0)).set 1 (.int .u64 0)).set 2 (.int .i64 0)) Try.results57 _ rfl _ Try.underlying36 rfl i36) rfl ⟨rfl, ((HS.out.b.setCell (p := ⟨y, 0, none⟩) HY.out _).setCell (p := ⟨y, 1, none⟩) HY.out _).setCell (p := ⟨y, 2, none⟩) HY.out _⟩
theorem icells_one (ws : List Int) : ∀ u ∈ icells ws, u.oneCell' = true := by
  intro u hu
  obtain ⟨x, _, rfl⟩ := List.mem_map.1 hu
  rfl
set_option maxHeartbeats 1000000 in
theorem newRr_any {w : World} {v : Value} {ws : List Int} (hs : SrcAt w 1 v ws.length (icells ws)) (hl : ws.length * 8 ≤ 140737488355328) :
    Calls Try.prog 19 #[v] w fun e w' => ∃ r a' c', e = .returned (.pointer (some ⟨r, 0, none⟩)) ∧ w.heap.size ≤ r ∧ RRAt w' r w.heap.size ws a' c' 0 (wgt ws 0) ∧ (∀ g, (Value.slice a' ws.length c').ownBlock = some g → g < w'.heap.size) ∧ Below w.heap.size w w' := by
  have HC := hid (cloneI_any hs hl)
  have H1 := hid hs.1
  clear hs
  go_enter Try.func19, Try.ntmps19
  go_upto_region 2 with (go_at_call 24; refine HC.out.mono ?_; rintro e w1 ⟨a', c', rfl, ho, hb⟩; have HO := hid ho; have HB := hid hb; clear ho hb)
  have hb2 : Below w1.heap.size w1 (w1.alloc (.cells #[.slice a' ws.length c', .int .i64 0, .int .i64 0] 71)) := (Below.refl _ _).alloc (Nat.le_refl _) _
  have hrr : RRAt (w1.alloc (.cells #[.slice a' ws.length c', .int .i64 0, .int .i64 0] 71)) w1.heap.size w.heap.size ws a' c' 0 0 := ⟨Row.new' _ _ _ _ _ rfl rfl, (slAt_own HO.out H1.out).kept hb2, fun g hg => by have := own_ge' HO.out hg; exact ⟨by omega, this.1⟩, by omega, by omega, by omega, by omega, by omega⟩
  have HOB : Hid (∀ g, (Value.slice a' ws.length c').ownBlock = some g → g < w1.heap.size) := fun g hg => (own_ge' HO.out hg).2
  have HP := hid (pass_any hrr 0 (by omega) (by omega))
  have HB2 := hid hb2
  clear hrr hb2
  go_wp2_with (go_at_call 25; refine HP.out.mono ?_; rintro e w2 ⟨rfl, hf, hr⟩; have HF := hid hf; have HR := hid hr; clear hf hr HP)
  go_ret
  refine ⟨_, a', c', rfl, HB.out.size, HR.out, fun g hg => ?_, ?_⟩
  · have h1 := HOB.out g hg
    have h2 := HB2.out.size
    have h3 := HF.out.size
    omega
  · exact HB.out.trans ((HB2.out.mono HB.out.size).trans (HF.out.below (fun k e => by rw [e]; exact HB.out.size) (Nat.le_trans HB.out.size HB2.out.size)))
theorem mk1_any {w : World} {a2 : Option Addr} {c2 c : Nat} {ws : List Int} (hc : w.cell? ⟨c, 0, none⟩ = some (.slice a2 ws.length c2)) (hs : SrcAt w 1 (.slice a2 ws.length c2) ws.length (icells ws)) (hl : ws.length * 8 ≤ 140737488355328) :
    Calls Try.prog 18 #[.pointer (some ⟨c, 0, none⟩)] w fun e w' => MkAns w (fun r w' => ∃ a' c', RRAt w' r w.heap.size ws a' c' 0 (wgt ws 0) ∧ ∀ g, (Value.slice a' ws.length c').ownBlock = some g → g < w'.heap.size) 62 e w' := by
  have HC := hid (newRr_any hs hl)
  clear hs
  go_enter Try.func18, Try.ntmps18
  go_wp2_with (go_at_call 19; refine HC.out.mono ?_; rintro e w1 ⟨r, a', c', rfl, hr, hp, hg, hb⟩; have HR := hid hr; have HP := hid hp; have HG := hid hg; have HB := hid hb; clear hr hp hg hb)
  go_ret
  exact ⟨HB.out, r, rfl, HR.out, a', c', HP.out, HG.out⟩
theorem RRAt.base {w : World} {r B B' : Nat} {ws : List Int} {a : Option Addr} {c : Nat} {t l : Int} (h : RRAt w r B ws a c t l) (hB : B' ≤ B) : RRAt w r B' ws a c t l := ⟨h.row, h.at_, fun g hg => ⟨(h.ne g hg).1, Nat.le_trans hB (h.ne g hg).2⟩, h.few, h.t0, h.t1, h.l0, h.l1⟩
set_option maxHeartbeats 1000000 in
theorem new1_any {w : World} {a1 : Option Addr} {c1 : Nat} {ws : List Int} (hs : SrcAt w 1 (.slice a1 ws.length c1) ws.length (icells ws)) (hl : ws.length * 8 ≤ 140737488355328) (a2 : Option Addr) (n2 c2 : Nat) : Calls Try.prog 9 #[.int .i64 1, .slice a1 ws.length c1, .slice a2 n2 c2] w fun e w' => NewAns2 w (fun r w' => ∃ a' c', RRAt w' r w.heap.size ws a' c' 0 (wgt ws 0) ∧ ∀ g, (Value.slice a' ws.length c').ownBlock = some g → g < w'.heap.size) 62 e w' := by
  have HS := hid hs
  have eg : ∀ args w, (callFunc 18 args).run Try.prog w = .ok (.enter 18 args) w := enters_of Try.func18 (by kernel_rfl) rfl
  clear hs
  go_enter Try.func9, Try.ntmps9
  go_upto_region 4 with fail
  refine wp_world fun W HW => ?_
  have HB0 : Hid (Below w.heap.size w W) := by show Below _ _ _; rw [HW.out]; exact (((Below.refl _ _).alloc (Nat.le_refl _) _).alloc (by simp) _).alloc (by simp; omega) _
  have c0 : W.cell? ⟨w.heap.size, 0, none⟩ = some (.slice a1 ws.length c1) := by rw [HW.out]; exact (((Row.new w [.slice a1 ws.length c1] 24).alloc _).alloc _).cell 0 _ rfl
  have c5 : W.cell? ⟨w.heap.size + 1 + 1, 1, none⟩ = some (.func (.func 18) #[] #[.pointer (some ⟨w.heap.size, 0, none⟩)]) := by rw [HW.out]; exact ((Row.new' ((w.alloc (.cells #[.slice a1 ws.length c1] 24)).alloc (.cells #[.slice a2 n2 c2] 37)) _ [_, _, _, _, _] _ _ (by simp) rfl).cell 1 _ rfl)
  have HM := hid (mk1_any c0 (HS.out.kept HB0.out) hl)
  clear HW c0
  go_wp2_with (go_at_fn 18; refine HM.out.mono ?_; rintro e w1 ⟨hb, r, rfl, hr, a', c', hp, hg⟩; have HB := hid hb; have HR := hid hr; have HP := hid hp; have HG := hid hg; clear hb hr hp hg)
  go_ret
  have hb1 : Below w.heap.size w w1 := HB0.out.trans (HB.out.mono HB0.out.size)
  exact ⟨hb1.alloc hb1.size _, _, r, rfl, hb1.size, Row.new' _ _ _ _ _ rfl rfl, Nat.le_trans HB0.out.size HR.out, Nat.ne_of_lt HP.out.row.lt, a', c', (HP.out.kept ((Below.refl _ _).alloc (Nat.le_refl _) _)).base HB0.out.size, fun g hg => by have := HG.out g hg; simp; omega⟩
end Go.Proofs.Ytdbdiebgjnofgaa
