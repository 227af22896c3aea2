import Derived.Test.YtjeokomocopjhaaSv1
import Derived.Test.YtjeokomocopjhaaFa13
import Derived.Laws.MakeOwn
import Derived.OwnWalk
namespace Go.Proofs.Ytjeokomocopjhaa
open Go.RowKit Go.Maps
set_option maxRecDepth 100000

theorem info44 : ∃ i : TypeInfo, Try.prog.info? 44 = some i ∧ i.zero = some (.agg #[.int .u64 0, .int .i64 0, .int .i64 0, .int .i64 0, .int .i64 0]) ∧ i.size = 5 ∧ i.bytes = 40 := by
  have h : (Try.prog.info? 44).map (fun i => (i.zero, i.size, i.bytes)) = some (some (.agg #[.int .u64 0, .int .i64 0, .int .i64 0, .int .i64 0, .int .i64 0]), 5, 40) := by kernel_rfl
  cases hq : Try.prog.info? 44 with
  | none => rw [hq] at h; cases h
  | some i => rw [hq] at h; simp at h; exact ⟨i, rfl, h.1, h.2.1, h.2.2⟩
/-- The streams that the walk over the map has met. -/
structure Gath (U : List Ln) (left : Lit → Bool) (acc : List Ln) : Prop where
  mem : ∀ z, z ∈ acc ↔ z ∈ U ∧ left (kw z.num) = false
  nodup : (acc.map Ln.num).Nodup
theorem Gath.start (U : List Ln) : Gath U (Maps.has (UD U)) [] :=
  ⟨fun z => ⟨fun h => by simp at h, fun ⟨hx, hl⟩ => by
    rw [UD_has] at hl
    have : U.any (fun x => decide (x.num = z.num)) = true := List.any_eq_true.2 ⟨z, hx, by simp⟩
    rw [this] at hl
    cases hl⟩, List.nodup_nil⟩
theorem Gath.step {U : List Ln} (hU : Rising U) {left : Lit → Bool} {acc : List Ln} (g : Gath U left acc) {c : Ln} (hc : c ∈ U) (hl : left (kw c.num) = true) : Gath U (fun z => left z && !z.sameKey (kw c.num)) (acc ++ [c]) := by
  have hn : c.num ∉ acc.map Ln.num := fun h => by
    obtain ⟨z, hz, e⟩ := List.mem_map.1 h
    rw [← e, ((g.mem z).1 hz).2] at hl
    cases hl
  refine ⟨fun z => ?_, ?_⟩
  · rw [List.mem_append, List.mem_singleton, g.mem]
    simp only [kw_same]
    constructor
    · rintro (⟨h1, h2⟩ | rfl)
      · exact ⟨h1, by rw [h2]; rfl⟩
      · exact ⟨hc, by simp⟩
    · rintro ⟨h1, h2⟩
      by_cases e : z.num = c.num
      · exact .inr (hU.inj h1 hc e)
      · exact .inl ⟨h1, by simpa [e] using h2⟩
  · rw [List.map_append, List.nodup_append]
    exact ⟨g.nodup, by simp, fun a ha b hb e => by rw [List.mem_singleton.1 hb] at e; exact hn (e ▸ ha)⟩
theorem nums_nodup {U : List Ln} (h : Rising U) : (U.map Ln.num).Nodup := by
  rw [List.nodup_iff_pairwise_ne, List.pairwise_map]
  exact h.imp (fun hab => by omega)
theorem Gath.le {U : List Ln} {left : Lit → Bool} {acc : List Ln} (g : Gath U left acc) : acc.length ≤ U.length := by
  have := nodup_len g.nodup (U := U.map Ln.num) (fun z hz => by
    obtain ⟨x, hx, e⟩ := List.mem_map.1 hz
    exact List.mem_map.2 ⟨x, ((g.mem x).1 hx).1, e⟩)
  simpa using this
theorem nodup_of_nums {l : List Ln} (h : (l.map Ln.num).Nodup) : l.Nodup := by
  rw [List.nodup_iff_pairwise_ne, List.pairwise_map] at h
  rw [List.nodup_iff_pairwise_ne]
  exact h.imp (fun hab e => hab (by rw [e]))
theorem Gath.perm {U : List Ln} (hU : Rising U) {left : Lit → Bool} {acc : List Ln} (g : Gath U left acc) (hl : ∀ k, left k = false) : acc.Perm U :=
  (List.perm_ext_iff_of_nodup (nodup_of_nums g.nodup) (nodup_of_nums (nums_nodup hU))).2 (fun z => by
    rw [g.mem]
    exact ⟨fun h => h.1, fun h => ⟨h, hl _⟩⟩)
theorem sorted_is {U L : List Ln} (hU : Rising U) (hp : L.Perm U) (hs : L.Pairwise (fun a b => a.num ≤ b.num)) : L = U :=
  List.Perm.eq_of_pairwise (le := fun a b : Ln => a.num ≤ b.num) (fun a b ha hb h h' => hU.inj (hp.mem_iff.1 ha) hb (by omega)) hs (hU.imp (fun hab => by omega)) hp
theorem bsl44 (w : World) (a b c d e : Value) : (Instr.buildSlice 41 1 #[(0, .agg #[a, b, c, d, e])]).run Try.prog w = .ok (.slice (some ⟨w.heap.size, 0, none⟩) 1 1) (w.alloc (.cells #[a, b, c, d, e] 44)) := by kernel_rfl
theorem own_ge {w : World} {base : Nat} {e : TypeId} {size : Nat} {v : Value} {n : Nat} {xs : List Value} (h : w.ownsRow base e size v n xs) {g : Nat} (hg : v.ownBlock = some g) : base ≤ g := by
  rcases h.2 with ⟨rfl, _⟩ | ⟨g', cap, cur, rfl, h1, _⟩
  · simp [Value.ownBlock] at hg
  · simp [Value.ownBlock] at hg; omega
set_option maxHeartbeats 8000000 in
/-- A look at all streams. -/
theorem view_any {w : World} {p b : Nat} {V : Nat → Value} {F : Fs} (h : FaAt w p b V F) (k : F.Ok) (hsz : ∀ q, Foot p b V F q → q < w.heap.size) :
    Calls Try.prog 14 #[pt p 0] w fun e w' => ∃ g, e = .returned (.slice (some ⟨g, 0, none⟩) F.U.length F.U.length) ∧ Row w' g (flatI F.U) 44 ∧ w.heap.size ≤ g ∧ Below w.heap.size w w' := by
  have c1 := h.row.cell 1 _ rfl
  have hb := bsl44
  have hms : Maps.size (UD F.U) = F.U.length := UD_size _
  obtain ⟨i0, hi1, hi2, hi3, hi4⟩ := info44
  have hlen := k.len
  obtain ⟨wm, hmk, hom, hgm⟩ := run_make_own (P := Try.prog) w w.heap.size 41 44 i0 _ 5 Try.underlying41 hi1 hi2 hi3 .i64 .i64 F.U.length (by rw [hi4]; omega) (by unfold maxLen; omega) (Nat.le_refl _)
  have HH := hid2 h
  have HK := hid2 k
  have HHm := hid2 (h.below (grown_below hgm))
  have HBm := hid2 (grown_below hgm)
  have HOm := hid2 hom
  have HWL : Hid (w.heap.size < wm.heap.size) := by
    obtain ⟨_, ⟨e, _⟩ | ⟨g', cap, cur, e, _, hg, _⟩⟩ := hom
    · cases e
    · cases e
      exact (Array.getElem?_eq_some_iff.1 hg).1
  have HF := hid2 hsz
  have HI := hid2 (And.intro hi1 hi3)
  have d1 := HHm.out.row.cell 1 _ rfl
  have hnI : (F.U.length : Int) ≤ 1024 := by omega
  clear h k hom hgm hlen hsz hi1 hi2 hi3 hi4
  go_enter Try.func14, Try.ntmps14
  go_upto_region 2 with (at_len; refine wpList_len_own _ rfl _ 53 rfl 26 58 Try.underlying53 readP b F.U.length (UD F.U) rfl HH.out.map ?_)
  go_wp2_with (at_range; refine wpList_range_own _ rfl _ 53 rfl 26 58 law26 Try.underlying53 readP b F.U.length (UD F.U) rfl HHm.out.map ?_; intro w0 hrg0 hg0 hs0)
  have HR0 := hid2 hrg0
  have HB0 := hid2 (grown_below hg0)
  clear hrg0 hg0 hs0 hmk c1 d1
  go_frame
  go_loopw [3] (fun s3 wr => ∃ (left : Lit → Bool) (cnt : Nat) (acc : List Ln), wr.ranges Try.prog 26 readP b wm.heap.size F.U.length (UD F.U) left cnt ∧ s3 = .slice (some ⟨w.heap.size, 0, none⟩) acc.length F.U.length ∧ wr.ownsRow w.heap.size 44 5 (.slice (some ⟨w.heap.size, 0, none⟩) acc.length F.U.length) acc.length (flatI acc) ∧ Gath F.U left acc ∧ FaAt wr p b V F ∧ Below w.heap.size w wr) (fun _ wr => wr.rangeLeft b wm.heap.size)
  case atStart => exact ⟨_, _, [], HR0.out, rfl, own_keep (S := fun _ => False) HOm.out (Fr.of_below HB0.out (Nat.le_refl _)) (fun _ _ e => e), Gath.start F.U, HHm.out.below HB0.out, HBm.out.trans (HB0.out.mono HBm.out.size)⟩
  case round =>
    obtain ⟨left, cnt, acc, hrg, rfl, hrow, hG1, hbk, hbel⟩ := hrel
    have HRG := hid2 hrg
    have HROW := hid2 hrow
    have HG := hid2 hG1
    have HBK := hid2 hbk
    have HBE := hid2 hbel
    clear hrg hrow hG1 hbk hbel HR0 HB0 HOm
    go_wp2_with (at_next; refine next_lines rfl _ rfl b wm.heap.size F.U left cnt rfl HRG.out ?_ ?_)
    · intro hl
      have hpm := HG.out.perm HK.out.rise hl
      have hln : acc.length = F.U.length := hpm.length_eq
      obtain ⟨cur, hcur, hcs⟩ : ∃ cur, wr.heap[w.heap.size]? = some (.cells cur 44 (0, 0)) ∧ cur = (flatI acc ++ []).toArray := by
        obtain ⟨_, ⟨e, _⟩ | ⟨g', cap, cur, e, _, hg, _, _, hcs, htk⟩⟩ := HROW.out
        · cases e
        · cases e
          refine ⟨cur, hg, ?_⟩
          rw [List.append_nil, ← htk, List.take_of_length_le (by rw [Array.length_toList, hcs, hln]; exact Nat.le_refl _)]
      rw [hcs] at hcur
      have hS := sortI_all wr w.heap.size F.U.length acc [] hcur (by rw [hln]; have := HK.out.len; omega)
      have HPM := hid2 hpm
      have HLN := hid2 hln
      clear hpm hcur hcs hln hl
      go_wp2_with (go_at_call 24; refine hS.mono ?_; rintro e w5 ⟨rfl, L', hp', hs', hh5, hg5⟩; have HH5 := hid2 hh5; have HP5 := hid2 hp'; have HS5 := hid2 hs'; have HG5 := hid2 hg5; clear hh5 hp' hs' hg5 hS)
      go_ret
      have e1 := sorted_is HK.out.rise (HP5.out.trans HPM.out) HS5.out
      subst e1
      refine ⟨w.heap.size, congrArg (fun z => Ending.returned (Value.slice (some ⟨w.heap.size, 0, none⟩) z F.U.length)) HLN.out, ⟨by have := HH5.out; rwa [List.append_nil] at this⟩, Nat.le_refl _, ?_⟩
      exact HBE.out.trans ((Fr.of_grown (S := fun q => q = w.heap.size) HG5.out (fun q e => .inl (by simpa using e.symm))).below (fun q e => by omega) HBE.out.size)
    · intro c w1 cnt1 hc hl hrg1 hlt hg1 hs1 hen
      have HST := hid2 (HG.out.step HK.out.rise hc hl)
      have HR1 := hid2 hrg1
      have HLT := hid2 hlt
      have HLE := hid2 (World.ranges.left_eq HRG.out)
      have f1 : Fr (fun q => q = wm.heap.size) wr w1 := Fr.of_grown hg1 (fun q e => .inl (by simpa using e.symm))
      have hwl := HWL.out
      have hmw := HBm.out.size
      have HO1 := hid2 (own_keep HROW.out f1 (fun g e hs => by simp [Value.ownBlock] at e; omega))
      have HK1 := hid2 (HBK.out.kept f1 (fun q hq e => HBK.out.notIter HRG.out hq e))
      have HB1 := hid2 (HBE.out.trans (f1.below (fun q e => by omega) HBE.out.size))
      have HLn : Hid (acc.length + 1 ≤ F.U.length) := by
        have := HST.out.le
        show acc.length + 1 ≤ F.U.length
        simpa using this
      have X1 := HK1.out.rows c hc
      have x0 := X1.cell 0 _ rfl
      have x1 := X1.cell 1 _ rfl
      have x2 := X1.cell 2 _ rfl
      have x3 := X1.cell 3 _ rfl
      have x4 := X1.cell 4 _ rfl
      have HOX := hid2 (own_keep (S := fun _ => False) HO1.out (Fr.of_below (below_box w1 (.cells c.cells.toArray 44)) (Nat.le_refl _)) (fun _ _ e => e))
      have HRX := hid2 (World.ranges.alloc HR1.out (.cells c.cells.toArray 44))
      have HCX := hid2 (Row.new w1 c.cells 44)
      have HCC : Hid (∀ j u, c.cells[j]? = some u → (w1.alloc (.cells c.cells.toArray 44)).cell? ((⟨w1.heap.size, 0, none⟩ : Addr).add j) = some u) := fun j u hu => by
        rw [Addr.add_mid, Nat.zero_add]
        exact HCX.out.cell j u hu
      have HC1 : Hid (∀ u ∈ c.cells, u.oneCell' = true) := fun u hu => by
        simp only [Ln.cells, List.mem_cons, List.not_mem_nil, or_false] at hu
        rcases hu with rfl | rfl | rfl | rfl | rfl <;> rfl
      have HFL : Hid (flatI (acc ++ [c]) = flatI acc ++ c.cells) := by show _ = _; rw [flatI_append, flatI_cons, flatI_nil, List.append_nil]
      clear hrg1 hlt hg1 hl hs1 f1 HRG HROW HBE HBK hwl hmw hc X1
      go_wp2_with (at_builtin; refine wpList_append_fits _ rfl (.tmp 21) (.tmp 25) 41 rfl w.heap.size 44 i0 5 Try.underlying41 HI.out.1 HI.out.2 w.heap.size acc.length F.U.length (flatI acc) rfl HOX.out ⟨w1.heap.size, 0, none⟩ 1 1 c.cells rfl rfl HCC.out HC1.out HLn.out ?_; intro w9 ho9 hg9; have HO9 := hid2 ho9; have HG9 := hid2 hg9; clear ho9 hg9)
      go_roundw
      case rel =>
        have fa : Below w1.heap.size w1 (w1.alloc (.cells c.cells.toArray 44)) := below_box w1 _
        have f9 : Fr (fun q => q = w.heap.size) (w1.alloc (.cells c.cells.toArray 44)) w9 := Fr.of_grown HG9.out (fun q e => .inl (by simpa using e.symm))
        have hKx := HK1.out.below fa
        have hne : ∀ q, Foot p b V F q → q ≠ w.heap.size := fun q hq => by have := HF.out q hq; omega
        have hmw := HBm.out.size
        have hwl := HWL.out
        refine ⟨_, cnt1, acc ++ [c], HRX.out.kept HG9.out (fun e => ?_) (fun e => ?_), by simp, ?_, HST.out, hKx.kept f9 (fun q hq e => hne q hq e), ?_⟩
        · simp only [Option.some.injEq] at e
          have := HF.out b (.inr (.inl rfl))
          omega
        · simp only [Option.some.injEq] at e
          omega
        · rw [HFL.out]
          simpa using HO9.out
        · have f2 : Fr (fun q => q = w.heap.size) w1 w9 := (Fr.of_below fa (Nat.le_refl _)).trans f9 (fun _ e => .inl e)
          exact HB1.out.trans (f2.below (fun q e => by omega) HB1.out.size)
      case measure =>
        rw [World.ranges.left_eq (HRX.out.kept HG9.out (fun e => by simp only [Option.some.injEq] at e; have := HF.out b (.inr (.inl rfl)); omega) (fun e => by simp only [Option.some.injEq] at e; have := HWL.out; omega)), HLE.out]
        exact HLT.out
theorem fa_view {s0 p : Nat} {w : World} {F : Fs} (h : Fa s0 w p F) : Calls Try.prog 14 #[pt p 0] w fun e w' => ∃ g, e = .returned (.slice (some ⟨g, 0, none⟩) F.U.length F.U.length) ∧ Row w' g (flatI F.U) 44 ∧ w.heap.size ≤ g ∧ Below w.heap.size w w' := by
  obtain ⟨k, hs, b, V, hA, hf⟩ := h
  exact view_any hA k (fun q hq => hA.lt hq)
end Go.Proofs.Ytjeokomocopjhaa
