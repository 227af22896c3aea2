import Derived.Test.YtdbdiebgjnofgaaWeighs0
namespace Go.Proofs.Ytdbdiebgjnofgaa
open Go.RowKit Go.Maps Go.Sort
set_option maxRecDepth 100000

theorem inf43 : ∃ i : TypeInfo, Try.prog.info? 43 = some i ∧ (∃ z, i.zero = some z ∧ z.cells.size = 12) ∧ i.size = 12 ∧ i.bytes = 96 := by
  have h : (Try.prog.info? 43).map (fun i => ((i.zero.map fun z => z.cells.size), i.size, i.bytes)) = some (some 12, 12, 96) := by kernel_rfl
  cases hq : Try.prog.info? 43 with
  | none => rw [hq] at h; cases h
  | some i =>
    rw [hq] at h
    simp only [Option.map_some, Option.some.injEq, Prod.mk.injEq] at h
    obtain ⟨h1, h2, h3⟩ := h
    cases hz : i.zero with
    | none => rw [hz] at h1; cases h1
    | some z => rw [hz] at h1; exact ⟨i, rfl, ⟨z, hz, by simpa using h1⟩, h2, h3⟩
abbrev waW (a : Option Addr) (cap n : Nat) : Vw := ⟨a, cap, reps n, true, ⟨7, 3, false, ⟨none, 0, 0⟩, false⟩, 99, 3⟩
/-- What the law keeps while it makes its view. -/
structure W1 (w w1 wr : World) (i : Nat) (v : Value) : Prop where
  b : Below w1.heap.size w1 wr
  x : Row wr w1.heap.size [v, .bool true, .int .u64 7, .int .i64 3, .bool false, .slice none 0 0, .bool false, .int .u64 99, .int .i64 3] 28
  own : wr.ownsRow (w1.heap.size + 1) 43 12 v i (fcells (reps i))
theorem fcells_snoc (n : Nat) : fcells (reps (n + 1)) = fcells (reps n) ++ pvA.cells := by
  unfold fcells reps
  rw [List.replicate_succ', List.flatMap_append]
  simp
theorem own_paths {w : World} {base n : Nat} {a : Option Addr} {c : Nat} (h : w.ownsRow base 43 12 (.slice a n c) n (fcells (reps n))) : PathsAt w a (reps n) := by
  intro k hk
  have hkn : k < n := by simpa using hk
  rcases h.2 with ⟨h1, h2⟩ | ⟨g, cap, cur, e, _, hg, _, _, _, ht⟩
  · omega
  · cases e
    refine ⟨g, 0, rfl, fun j v hv => ?_⟩
    have h3 := fcells_get (reps n) k hk j v hv
    rw [Nat.zero_add, cell_of_row w g (k * 12 + j) cur 43 (0, 0) hg]
    rw [← ht] at h3
    have hjl := (List.getElem?_eq_some_iff.1 h3).1
    rw [List.getElem?_take_of_lt (by simp at hjl; omega)] at h3
    simpa using h3
/-- What the law keeps while it asks. -/
structure W2 (w wr : World) (s r x : Nat) (ws : List Int) (wa : Option Addr) (wc : Nat) (a : Option Addr) (cap n : Nat) (t l : Int) : Prop where
  hb : Below w.heap.size w wr
  hs : Row wr s [.iface 62 (.pointer (some ⟨r, 0, none⟩))] 33
  hx : Row wr x (waW a cap n).cells 28
  at_ : PathsAt wr a (reps n)
  rr : RRAt wr r w.heap.size ws wa wc t l
  hg : ∀ g, (Value.slice wa ws.length wc).ownBlock = some g → g < wr.heap.size
  sr : s ≠ r
  xr : x ≠ r
  ar : ∀ g o, a = some ⟨g, o, none⟩ → g ≠ r
  rb : w.heap.size ≤ r
section
variable {w wr w' : World} {s r x : Nat} {ws : List Int} {wa : Option Addr} {wc : Nat} {a : Option Addr} {cap n : Nat} {t l : Int}
theorem W2.kept (h : W2 w wr s r x ws wa wc a cap n t l) (hb : Below wr.heap.size wr w') : W2 w w' s r x ws wa wc a cap n t l :=
  ⟨h.hb.trans (hb.mono h.hb.size), h.hs.kept hb h.hs.lt, h.hx.kept hb h.hx.lt, h.at_.kept hb, h.rr.kept hb, fun g hg => Nat.lt_of_lt_of_le (h.hg g hg) hb.size, h.sr, h.xr, h.ar, h.rb⟩
theorem W2.next (h : W2 w wr s r x ws wa wc a cap n t l) (hn : 0 < n) (hn8 : n ≤ 8) {t' l' : Int} (hT : Turns ws (rdy (reps n)) (reps n) t l t' l') : Calls Try.prog 11 #[.pointer (some ⟨s, 0, none⟩), (waW a cap n).val] wr fun e w' => e = .returned (pkv (some ⟨t', 7, 3⟩)) ∧ W2 w w' s r x ws wa wc a cap n t' (l' - 1) := by
  refine (next1_yes h.rr h.hg h.hs h.sr (V := waW a cap n) ⟨h.at_, by simp; omega⟩ h.ar rfl (reps_any n hn) hT).mono ?_
  rintro e w2 ⟨rfl, hf, hr⟩
  refine ⟨rfl, h.hb.trans (hf.below (fun k e => by rw [e]; exact h.rb) h.hb.size), hf.row h.hs h.sr, hf.row h.hx h.xr, fun k hk => ?_, hr, fun g hg => Nat.lt_of_lt_of_le (h.hg g hg) hf.size, h.sr, h.xr, h.ar, h.rb⟩
  obtain ⟨g, o, e, h1⟩ := h.at_ k hk
  exact ⟨g, o, e, fun j v hv => hf.cell (h1 j v hv) (h.ar g o e)⟩
end
theorem box_range (w : World) (t : TypeId) (l : List Value) : ∀ j u, l[j]? = some u → (w.alloc (.cells l.toArray t)).cell? ((⟨w.heap.size, 0, none⟩ : Addr).add j) = some u := fun j u hj => by
  rw [Addr.add_lit, Nat.zero_add]
  exact (Row.new w l t).cell j u hj
theorem own_set {w : World} {base : Nat} {e : TypeId} {size : Nat} {v : Value} {n : Nat} {xs : List Value} (h : w.ownsRow base e size v n xs) {x : Nat} (hx : x < base) (o : Nat) (u : Value) : (w.setCell ⟨x, o, none⟩ u).ownsRow base e size v n xs := by
  refine ⟨h.1, ?_⟩
  rcases h.2 with h0 | ⟨g, cap, cur, rfl, h1, h2, h3⟩
  · exact .inl h0
  · exact .inr ⟨g, cap, cur, rfl, h1, (Below.heap_setCell w ⟨x, o, none⟩ u g (by show g ≠ x; omega)).trans h2, h3⟩
theorem W1.step {w w1 wr w5 : World} {i : Nat} {v v5 : Value} (h : W1 w w1 wr i v) (hf : (wr.alloc (.cells pvA.cells.toArray 43)).grownBy w5 v.ownBlock) (ho : w5.ownsRow (w1.heap.size + 1) 43 12 v5 (i + 1) (fcells (reps i) ++ pvA.cells)) (hz : w1.heap.size + 1 ≤ wr.heap.size) :
    Row w5 w1.heap.size [v, .bool true, .int .u64 7, .int .i64 3, .bool false, .slice none 0 0, .bool false, .int .u64 99, .int .i64 3] 28 ∧ W1 w w1 (w5.setCell ⟨w1.heap.size, 0, none⟩ v5) (i + 1) v5 ∧ w1.heap.size + 1 ≤ (w5.setCell ⟨w1.heap.size, 0, none⟩ v5).heap.size := by
  have hb1 : Below w1.heap.size w1 (wr.alloc (.cells pvA.cells.toArray 43)) := h.b.alloc h.b.size _
  have hfr : Fr (fun k => w1.heap.size + 1 ≤ k) (wr.alloc (.cells pvA.cells.toArray 43)) w5 := Fr.of_grown hf (fun k e => .inl (own_ge' h.own e).1)
  have hrow := hfr.row (h.x.alloc (.cells pvA.cells.toArray 43)) (by omega)
  have hb2 : Below w1.heap.size w1 w5 := hb1.trans (hfr.below (fun k e => by omega) hb1.size)
  refine ⟨hrow, ⟨hb2.setCell (p := ⟨w1.heap.size, 0, none⟩) (Nat.le_refl _) _, hrow.set 0 _, ?_⟩, ?_⟩
  · rw [fcells_snoc]; exact own_set ho (by omega) _ _
  · have := hfr.size
    simp [World.setCell] at this ⊢
    omega
theorem utmod_bd (x k : Int) (hk : 0 < k) : 0 ≤ (IntKind.u64.wrap x).tmod k ∧ (IntKind.u64.wrap x).tmod k ≤ k - 1 := by
  have h : 0 ≤ IntKind.u64.wrap x := by rw [IntKind.wrap_u64]; omega
  rw [Int.tmod_eq_emod_of_nonneg h]
  have := Int.emod_nonneg (IntKind.u64.wrap x) (show k ≠ 0 by omega)
  have := Int.emod_lt_of_pos (IntKind.u64.wrap x) hk
  omega
set_option maxHeartbeats 4000000 in
theorem weighs_any {w : World} {aw : Option Addr} {cw : Nat} {ws : List Int} (hI : IntsAt w aw ws) (hS : SrcAt w 1 (.slice aw ws.length cw) ws.length (icells ws)) (hl : ws.length * 8 ≤ 140737488355328) (x1 x2 : Int) :
    Calls Try.prog 5 #[.slice aw ws.length cw, .int .i64 x1, .int .i64 x2] w fun e w' => e = .returned (.bool true) ∧ Below w.heap.size w w' := by
  obtain ⟨b11, b12⟩ := utmod_bd x1 8 (by decide)
  obtain ⟨b21, b22⟩ := utmod_bd x2 3000 (by decide)
  generalize hm1 : (IntKind.u64.wrap x1).tmod 8 = m1 at *
  generalize hm2 : (IntKind.u64.wrap x2).tmod 3000 = m2 at *
  obtain ⟨N, hN⟩ : ∃ N : Nat, ws.length = N := ⟨_, rfl⟩
  obtain ⟨i0, hi0, ⟨z0, hz0, hz3⟩, hz1, hz2⟩ := inf43
  have HI := hid hI
  have HNEW := hid (new1_any hS hl none 0 0)
  rw [hN] at HNEW ⊢
  have HNL := hid hN
  have HNB : Hid (N ≤ 17592186044416) := by show _ ≤ _; omega
  clear hI hS hl hN
  go_enter Try.func5, Try.ntmps5
  go_upto_region 6 with (go_at_call 9; refine HNEW.out.mono ?_; rintro e w1 ⟨hb, s, r, rfl, hs, hr, hrr, hne, a', c', hp, hg⟩; have HB := hid hb; have HRS := hid hr; have HRR := hid hp; have HG := hid hg; have HNE := hid hne; have HRB := hid hrr; clear HNEW hb hs hr hrr hne hp hg)
  go_upto_region 7 with fail
  refine wp_world fun W HW => ?_
  have HW1 : Hid (W1 w w1 W 0 (.slice none 0 0)) := by
    refine ⟨?_, ?_, ?_⟩
    · rw [HW.out]; exact (Below.refl _ _).alloc (Nat.le_refl _) _
    · rw [HW.out]; exact Row.new' _ _ _ _ _ rfl rfl
    · exact ⟨rfl, .inl ⟨rfl, rfl⟩⟩
  have HSZ : Hid (w1.heap.size + 1 ≤ W.heap.size) := by show _ ≤ _; rw [HW.out]; simp
  clear HW hm1 hm2
  obtain ⟨n, hn⟩ : ∃ n : Nat, (n : Int) = 1 + m1 := ⟨(1 + m1).toNat, by omega⟩
  obtain ⟨x, hx⟩ : ∃ x, x = w1.heap.size := ⟨_, rfl⟩
  have hn0 : 0 < n := by omega
  have hn8 : n ≤ 8 := by omega
  rw [← hn]
  have hni : (n : Int) ≤ 8 := by omega
  clear hn b11 b12
  have HX := hid hx
  rw [← hx]
  clear hx
  go_wp2
  go_loopw [9] (fun s9 wr => ∃ (i : Nat) (v : Value), i ≤ n ∧ s9 = .int .i64 i ∧ Hid (W1 w w1 wr i v) ∧ Hid (w1.heap.size + 1 ≤ wr.heap.size)) (fun s _ => n - (intOf s).toNat)
  case atStart => exact ⟨0, _, Nat.zero_le _, rfl, HW1, HSZ⟩
  case round =>
    obtain ⟨i, v, hi, rfl, HR, HZ⟩ := hrel
    obtain ⟨va, vc, rfl⟩ := own_view HR.out.own
    by_cases hlt : i < n
    · have hii : (i : Int) < n := by omega
      have c0 := HR.out.x.cell 0 _ rfl
      have f0 := HR.out.x.frozen 0
      rw [← HX.out] at c0 f0
      have HSTEP := hid (fun w5 v5 hf ho => HR.out.step (w5 := w5) (v5 := v5) hf ho HZ.out)
      go_wp2_with (at_builtin; refine wpList_append_own_at _ rfl _ _ 22 rfl (w1.heap.size + 1) 43 i0 z0 12 96 Try.underlying22 hi0 hz0 hz1 hz2 hz3 (by decide) _ i (fcells (reps i)) rfl (World.ownsRow.alloc HR.out.own _) ⟨wr.heap.size, 0, none⟩ 1 1 pvA.cells rfl rfl (box_range wr 43 _) (by decide) (by unfold maxLen; omega) (by omega) (by have := HZ.out; simp; omega) ?_; intro v5 w5 h5 g5 _ n5; obtain ⟨a5, c5, rfl⟩ := own_view h5; have hst := HSTEP.out w5 _ g5 h5; have H5 := hid hst.2; have d5 := hst.1.cell 0 _ rfl; have f5 := hst.1.frozen 0; rw [← HX.out] at d5 f5; clear hst h5 g5 n5 c0 f0)
      rw [← HX.out] at H5
      go_roundw
      case rel => exact ⟨i + 1, _, hlt, by go_num, hid H5.out.1, hid (by show _ ≤ _; have h := H5.out.2; rw [HX.out] at h ⊢; exact h)⟩
      case measure => simp [intOf]; omega
    · obtain rfl : i = n := by omega
      clear hlt
      have HPA := hid (own_paths HR.out.own)
      have HT2 : Hid (W2 w wr s r x ws a' c' va vc i 0 (wgt ws 0)) := by
        have hb := HR.out.b
        have hrl := HRR.out.row.lt
        have hsl := HRS.out.lt
        refine ⟨HB.out.trans (hb.mono HB.out.size), HRS.out.kept hb HRS.out.lt, ?_, HPA.out, HRR.out.kept hb, fun g hg => ?_, Ne.symm HNE.out, ?_, fun g o e => ?_, HRB.out⟩
        · have := HR.out.x
          rw [← HX.out] at this
          simpa [Vw.cells] using this
        · rw [HNL.out] at hg
          exact Nat.lt_of_lt_of_le (HG.out g hg) hb.size
        · rw [HX.out]; omega
        · subst e
          have := (own_ge' HR.out.own (g := g) rfl).1
          omega
      have HLW := hid (fun (wq : World) (hb : Below w.heap.size w wq) (k : Int) (hk : 0 ≤ k) => lweight_any (HI.out.kept hb) N cw HNL.out HNB.out k hk)
      have HW0 := hid (HLW.out wr HT2.out.hb 0 (by omega))
      clear HR HZ HPA
      go_upto_region 13 with (go_at_call 13; refine HW0.out.mono ?_; rintro e w2 ⟨rfl, rfl⟩; clear HW0)
      obtain ⟨M, hM⟩ : ∃ M : Nat, (M : Int) = m2 := ⟨m2.toNat, by omega⟩
      have hM3 : (M : Int) ≤ 3000 := by omega
      rw [← hM]
      clear hM b21 b22
      go_wp2
      go_loopw [10, 11, 12, 13, 14] (fun s10 s11 s12 _ _ wr => ∃ (j : Nat) (t l : Int), j ≤ M ∧ s12 = .int .i64 j ∧ s10 = .int .i64 t ∧ s11 = .int .i64 l ∧ Hid (W2 w wr s r x ws a' c' va vc i t l) ∧ 0 ≤ t ∧ t ≤ 7 ∧ Hid (t < i) ∧ 0 ≤ l ∧ l ≤ 255) (fun _ _ s _ _ _ => M - (intOf s).toNat)
      case atStart => exact ⟨0, 0, wgt ws 0, Nat.zero_le _, rfl, rfl, rfl, HT2, by omega, by omega, hid (by show _ < _; omega), by have := wgt_bd ws 0; omega, (wgt_bd ws 0).2⟩
      case round =>
        obtain ⟨j, t, l, hj, rfl, rfl, rfl, HS, ht0, ht7, HTN, hl0, hl1⟩ := hrel
        by_cases hlt : j < M
        · have hji : (j : Int) < M := by omega
          by_cases hlz : l = 0
          · subst hlz
            have HTU := hid (reps_turn ws i hn0 t 0 ht0 HTN.out (by omega))
            rw [if_pos rfl, if_pos rfl] at HTU
            have hmb : 0 ≤ (t + 1) % (i : Int) ∧ (t + 1) % (i : Int) < i := ⟨Int.emod_nonneg _ (by omega), Int.emod_lt_of_pos _ (by omega)⟩
            have hmm : (t + 1).tmod i = (t + 1) % i := Int.tmod_eq_emod_of_nonneg (by omega)
            obtain ⟨T, hT⟩ : ∃ T, T = (t + 1) % (i : Int) := ⟨_, rfl⟩
            rw [← hT] at hmb hmm HTU
            have hmm2 : (t + 1) % (i : Int) = T := hT.symm
            have HWT := hid (HLW.out wr HS.out.hb T hmb.1)
            have hwb := wgt_bd ws T
            have HNX := hid (HS.out.next hn0 hn8 HTU.out)
            generalize wgt ws T = lw at *
            have hT7 : T ≤ 7 := by omega
            have hT0 : 0 ≤ T := hmb.1
            have HTI : Hid (T < i) := hmb.2
            obtain ⟨hw1, hw2⟩ := hwb
            have hin : ¬ (i : Int) = 0 := by omega
            clear hT hmb
            have b0 := HS.out.hx.cell 0 _ rfl
            have b1 := HS.out.hx.cell 1 _ rfl
            have b2 := HS.out.hx.cell 2 _ rfl
            have b3 := HS.out.hx.cell 3 _ rfl
            have b4 := HS.out.hx.cell 4 _ rfl
            have b5 := HS.out.hx.cell 5 _ rfl
            have b6 := HS.out.hx.cell 6 _ rfl
            have b7 := HS.out.hx.cell 7 _ rfl
            have b8 := HS.out.hx.cell 8 _ rfl
            simp only [List.length_replicate] at b0
            simp only [Vw.val, Vw.cells, List.length_replicate, pkv, Pk.cells] at HNX
            have HS0 := HS
            clear HS
            go_wp2_with (first
              | (go_at_call 13; refine HWT.out.mono ?_; rintro e w3 ⟨rfl, rfl⟩; clear HWT)
              | (go_at_call 11; refine HNX.out.mono ?_; rintro e w4 ⟨rfl, h4⟩; have HS4 := hid h4; clear h4 HNX b0 b1 b2 b3 b4 b5 b6 b7 b8))
            go_roundw
            case rel => exact ⟨j + 1, T, lw - 1, hlt, by go_num, rfl, rfl, hid (HS4.out.kept ((Below.refl _ _).alloc (Nat.le_refl _) _)), hT0, hT7, HTI, by omega, by omega⟩
            case measure => simp [intOf]; omega
          · have HTU := hid (reps_turn ws i hn0 t l ht0 HTN.out hl0)
            rw [if_neg hlz, if_neg hlz] at HTU
            have HNX := hid (HS.out.next hn0 hn8 HTU.out)
            have hlb : (l == 0) = false := by simpa using hlz
            have hl2 : 1 ≤ l := by omega
            have b0 := HS.out.hx.cell 0 _ rfl
            have b1 := HS.out.hx.cell 1 _ rfl
            have b2 := HS.out.hx.cell 2 _ rfl
            have b3 := HS.out.hx.cell 3 _ rfl
            have b4 := HS.out.hx.cell 4 _ rfl
            have b5 := HS.out.hx.cell 5 _ rfl
            have b6 := HS.out.hx.cell 6 _ rfl
            have b7 := HS.out.hx.cell 7 _ rfl
            have b8 := HS.out.hx.cell 8 _ rfl
            simp only [List.length_replicate] at b0
            simp only [Vw.val, Vw.cells, List.length_replicate, pkv, Pk.cells] at HNX
            clear HS
            go_wp2_with (go_at_call 11; refine HNX.out.mono ?_; rintro e w4 ⟨rfl, h4⟩; have HS4 := hid h4; clear h4 HNX b0 b1 b2 b3 b4 b5 b6 b7 b8)
            go_roundw
            case rel => exact ⟨j + 1, t, l - 1, hlt, by go_num, rfl, rfl, hid (HS4.out.kept ((Below.refl _ _).alloc (Nat.le_refl _) _)), ht0, ht7, HTN, by omega, by omega⟩
            case measure => simp [intOf]; omega
        · obtain rfl : j = M := by omega
          clear hlt
          have HAL := hid (alive_any wr)
          go_wp2_with (go_at_call 12; refine HAL.out.mono ?_; rintro e w6 ⟨rfl, hb6⟩; have HB6 := hid (HS.out.hb.trans (hb6.mono HS.out.hb.size)); clear hb6 HAL)
          go_ret
          exact ⟨rfl, HB6.out⟩
end Go.Proofs.Ytdbdiebgjnofgaa
