import Derived.Test.YtjnmfedefmemnaaRowA
namespace Go.Proofs.Ytjnmfedefmemnaa
open Go.RowKit
set_option maxRecDepth 100000

/-- Cells that lie from an address on. -/
def CellsAt (w : World) (a : Option Addr) (xs : List Value) : Prop := ∀ k (h : k < xs.length), ∃ g o, a = some ⟨g, o, none⟩ ∧ w.cell? ⟨g, o + k, none⟩ = some xs[k]
theorem CellsAt.kept {w w' : World} {a : Option Addr} {xs : List Value} (h : CellsAt w a xs) (hb : Below w.heap.size w w') : CellsAt w' a xs := fun k hk => by
  obtain ⟨g, o, e, c⟩ := h k hk
  exact ⟨g, o, e, cell_kept hb c⟩
theorem take_snoc {α : Type} (l : List α) (k : Nat) (h : k < l.length) : l.take (k + 1) = l.take k ++ [l[k]] := List.take_succ_eq_append_getElem h
theorem owns_slice {base m : Nat} {w : World} {v : Value} {xs : List Value} (h : w.ownsRow base 22 1 v m xs) : ∃ a cap, v = .slice a m cap ∧ CellsAt w a xs ∧ m ≤ cap ∧ (m ≠ 0 → a ≠ none) := by
  obtain ⟨h1, ⟨rfl, rfl⟩ | ⟨g, cap, cur, rfl, hb, hh, hc, _, hs, ht⟩⟩ := h
  · exact ⟨none, 0, rfl, fun k hk => by rw [h1] at hk; simp at hk, Nat.le_refl _, fun h => absurd rfl h⟩
  · refine ⟨_, _, rfl, fun k hk => ⟨g, 0, rfl, ?_⟩, hc, fun _ => by simp⟩
    rw [Nat.zero_add, cell_of_row w g k cur 22 (0, 0) hh]
    have hk' : k < m := by rw [h1] at hk; omega
    have e : xs[k]? = cur.toList[k]? := by rw [← ht, Nat.mul_one, List.getElem?_take_of_lt hk']
    rw [List.getElem?_eq_getElem hk] at e
    simpa using e.symm
theorem cells_new1 (w : World) (x : Value) : CellsAt (w.alloc (.cells #[x] 22)) (some ⟨w.heap.size, 0, none⟩) [x] := fun j hj => by
  have e0 : j = 0 := by simpa using hj
  subst e0
  exact ⟨_, _, rfl, (Row.new w [x] 22).cell 0 _ rfl⟩
/-- append of slices to a row that the law made. -/
theorem append_l {base m : Nat} {w : World} {v : Value} {xs : List Value} (h : w.ownsRow base 22 1 v m xs) (ty : TypeId) {a : Option Addr} {n cap : Nat} {ys : List Value} (hY : CellsAt w a ys) (hn : ys.length = n) (h1 : ∀ y ∈ ys, y.oneCell' = true) (hb : m + n ≤ 2097152) (hbase : base ≤ w.heap.size) (hsome : a ≠ none) :
    ∃ v' w', (Builtin.append_ #[35, 35] ty #[v, .slice a n cap]).run Try.prog w = .ok v' w' ∧ w'.ownsRow base 22 1 v' (m + n) (xs ++ ys) ∧ w.grownBy w' v.ownBlock := by
  obtain ⟨i, i1, i2, i3, i4⟩ := info22
  cases a with
  | none => exact absurd rfl hsome
  | some ad =>
    obtain ⟨v', w', hr, ho, hg, _⟩ := run_append_own (P := Try.prog) w base 35 ty 22 i (.slice none 0 0) 1 24 Try.underlying35 i1 i2 i3 i4 rfl (by decide) v m xs h ad n cap ys (by omega) (fun j u hu => by
      have hj := (List.getElem?_eq_some_iff.1 hu).1
      obtain ⟨g, o, e, c⟩ := hY j hj
      cases e
      rw [Addr.add_mid, c, ← hu, List.getElem?_eq_getElem hj]) h1 (by unfold maxLen; omega) (by omega) hbase
    exact ⟨v', w', hr, ho, hg⟩
theorem below_grown {B m : Nat} {W w w' : World} {v : Value} {xs : List Value} (hb : Below B W w) (h : w.ownsRow B 22 1 v m xs) (hg : w.grownBy w' v.ownBlock) (hB : B ≤ w.heap.size) : Below B W w' := by
  refine hb.trans ⟨hg.os, hg.tape, hg.output, hg.size, fun k hk => hg.block k (by omega) (fun e => ?_)⟩
  obtain ⟨_, ⟨rfl, _⟩ | ⟨g, cap, cur, rfl, hbb, _⟩⟩ := h
  · cases e
  · simp only [Value.ownBlock, Option.some.injEq] at e
    omega
theorem idx_of (pv : Int) (m : Nat) (h : 0 < m) (h2 : m ≤ 1048576) : ∃ j : Nat, j < m ∧ wrap64 ((IntKind.u64.wrap pv).tmod (m : Int)) = (j : Int) := by
  have h0 : 0 ≤ IntKind.u64.wrap pv := by rw [IntKind.wrap_u64]; omega
  have e : (IntKind.u64.wrap pv).tmod (m : Int) = IntKind.u64.wrap pv % (m : Int) := Int.tmod_eq_emod_of_nonneg h0
  have h3 : 0 ≤ IntKind.u64.wrap pv % (m : Int) := Int.emod_nonneg _ (by omega)
  have h4 : IntKind.u64.wrap pv % (m : Int) < (m : Int) := Int.emod_lt_of_pos _ (by omega)
  rw [e]
  generalize IntKind.u64.wrap pv % (m : Int) = z at *
  refine ⟨z.toNat, by omega, ?_⟩
  unfold wrap64
  omega
set_option maxHeartbeats 4000000 in
theorem row_any {W : World} {fa pa : Option Addr} {nF capF nP capP : Nat} (x : Int) {xs : List Value} {fs : List (List (BitVec 8))} {ps : List Int}
    (hX : CellsAt W fa xs) (hxs : xs.length = nF) (hS : Slices W xs fs) (hP : CellsAt W pa (ps.map (Value.int .i64))) (hps : ps.length = nP) (hb1 : nF ≤ 1048576) (hb2 : nP ≤ 1048576) (hfl : ∀ f ∈ fs, f.length ≤ 1048576) :
    Calls Try.prog 4 #[.slice fa nF capF, .slice pa nP capP, .int .i64 x] W fun e w' => e = .returned (.bool true) ∧ Below W.heap.size W w' := by
  obtain ⟨d, hd, hdd⟩ := and_one x
  have hcc : (W.alloc (.cells #[.int .i64 1073741824] 3)).cell? ⟨W.heap.size, 0, none⟩ = some (.int .i64 1073741824) := (Row.new W [.int .i64 1073741824] 3).cell 0 _ rfl
  have HN := hid (new_one (by decide) (by decide) hcc)
  have HB0 := hid (below_grow (Below.refl W.heap.size W) (.cells #[.int .i64 1073741824] 3))
  have HX := hid hX
  have HXS := hid hxs
  have HS := hid hS
  have HP := hid hP
  have HPS := hid hps
  have HFL := hid hfl
  have b1 : (nF : Int) ≤ 1048576 := by omega
  have b2 : (nP : Int) ≤ 1048576 := by omega
  have HD := hid hd
  have HB1 := hid hb1
  clear hcc hX hxs hS hP hps hfl hd hb1 hb2
  go_enter Try.func4, Try.ntmps4
  go_upto_region 6 with (first
    | (go_at_call 9; refine Calls.mono HN.out ?_; rintro e w1 ⟨p, g, rfl, hq, hpq, hr, hn, hb⟩; have HNR := hid (NetR.new (d := d) HB0.out.size (by decide) (by decide) hq hpq hr hn HD.out); have HBW := hid (HB0.out.trans (hb.mono HB0.out.size)); clear hr hn hb hq hpq))
  clear HN HB0
  go_wp2
  go_loopw [9, 10] (fun l i wr => ∃ k : Nat, k ≤ nF ∧ i = .int .i64 k ∧ wr.ownsRow W.heap.size 22 1 l k (xs.take k) ∧ NetR W.heap.size wr p g d 1073741824 (fs.take k) ∧ Below W.heap.size W wr) (fun _ i _ => nF - (intOf i).toNat)
  case atStart => exact ⟨0, Nat.zero_le _, rfl, ⟨rfl, .inl ⟨rfl, rfl⟩⟩, HNR.out, HBW.out⟩
  case round =>
    obtain ⟨k, hk, rfl, how, hnr, hbw⟩ := hrel
    have HOW := hid how
    have HNK := hid hnr
    have HBK := hid hbw
    clear how hnr hbw
    by_cases hlt : k < nF
    · have hkx : k < xs.length := by rw [HXS.out]; exact hlt
      have hkf : k < fs.length := by rw [← HS.out.len]; exact hkx
      obtain ⟨gx, ox, rfl, cx⟩ := HX.out k hkx
      obtain ⟨ax, cx2, ex, hbx⟩ := HS.out.each k _ _ (List.getElem?_eq_getElem hkx) (List.getElem?_eq_getElem hkf)
      rw [ex] at cx
      have cx3 : wr.cell? ⟨gx, ox + k, none⟩ = some (.slice ax fs[k].length cx2) := cell_kept HBK.out cx
      have l1 : (k : Int) < (nF : Int) := by omega
      have HCX := hid cx
      have HBX := hid hbx
      have HFK : Hid (((fs.take k).length : Int) < 1073741824) := by show _ < _; have := HB1.out; simp; omega
      have HFB : Hid (fs[k].length ≤ 140737488355328) := Nat.le_trans (HFL.out _ (List.getElem_mem hkf)) (by decide)
      have HTX : Hid (xs.take (k + 1) = xs.take k ++ [.slice ax fs[k].length cx2]) := by show _ = _; rw [take_snoc xs k hkx, ex]
      have HTF : Hid (fs.take (k + 1) = fs.take k ++ [fs[k]]) := take_snoc fs k hkf
      have HKN := hid hlt
      clear cx ex hbx hkx hlt
      generalize hfk : fs[k] = fk at *
      clear hfk hkf
      go_wp2_with (first
        | (go_at_call 10; refine (NetR.put (cap := cx2) HNK.out HFK.out (HBX.out.kept HBK.out) rfl HFB.out).mono ?_; rintro e w2 ⟨rfl, hn2, hk2⟩; have cx4 := cell_kept (HBK.out.trans hk2.below) HCX.out; have HN2 := hid hn2; have HK2 := hid hk2; clear hn2 hk2)
        | (at_builtin; obtain ⟨v', w3, hr3, ho3, hg3⟩ := append_l (a := some ⟨w2.heap.size, 0, none⟩) (n := 1) (cap := 1) (ys := [.slice ax fk.length cx2]) ((owns_keeps HOW.out HK2.out).alloc (.cells #[.slice ax fk.length cx2] 22)) 35 (cells_new1 w2 _) rfl (by simp [Value.oneCell']) (by have := HB1.out; have := HKN.out; omega) (Nat.le_trans (Nat.le_trans HBK.out.size HK2.out.size) (below_grow (Below.refl _ _) _).size) (by simp)
           refine wpList_append_by rfl _ _ _ rfl rfl rfl hr3 ?_
           have HR3 := hid ho3
           have HG3 := hid hg3
           clear hr3 ho3 hg3))
      go_roundw
      case rel =>
        have hal := below_grow (Below.refl w2.heap.size w2) (.cells #[.slice ax fk.length cx2] 22)
        have hB2 : Below W.heap.size W w2 := HBK.out.trans HK2.out.below
        have how2 := (owns_keeps HOW.out HK2.out).alloc (.cells #[.slice ax fk.length cx2] 22)
        refine ⟨k + 1, HKN.out, by go_num, ?_, ?_, ?_⟩
        · rw [HTX.out]; exact HR3.out
        · rw [HTF.out]; exact (HN2.out.kept hal).grown how2 HG3.out
        · exact below_grown (hB2.trans (hal.mono hB2.size)) how2 HG3.out (Nat.le_trans hB2.size hal.size)
      case measure => simp [intOf]; have := HKN.out; omega
    · have ek : k = nF := by omega
      subst ek
      have HOW2 : Hid (wr.ownsRow W.heap.size 22 1 u9 xs.length xs) := by have h := HOW.out; rw [List.take_of_length_le (by rw [HXS.out]; exact Nat.le_refl _)] at h; rw [HXS.out]; exact h
      have HNK2 : Hid (NetR W.heap.size wr p g d 1073741824 fs) := by have h := HNK.out; rw [List.take_of_length_le (by rw [← HS.out.len, HXS.out]; exact Nat.le_refl _)] at h; exact h
      clear HOW HNK
      go_wp2
      go_loopw [9, 13] (fun l i wr => ∃ r : Nat, r ≤ nP ∧ i = .int .i64 r ∧ ∃ ys gs, wr.ownsRow W.heap.size 22 1 l ys.length ys ∧ Slices W ys gs ∧ NetR W.heap.size wr p g d 1073741824 gs ∧ Below W.heap.size W wr ∧ ys.length ≤ k ∧ ∀ f ∈ gs, f.length ≤ 1048576) (fun _ i _ => nP - (intOf i).toNat)
      case atStart => exact ⟨0, Nat.zero_le _, rfl, xs, fs, HOW2.out, HS.out, HNK2.out, HBK.out, Nat.le_of_eq HXS.out, HFL.out⟩
      case round =>
        clear HOW2 HNK2 HBK
        obtain ⟨r, hr, rfl, ys, gs, how, hsl, hnr, hbw, hyk, hgl⟩ := hrel
        obtain ⟨al, capl, rfl, hcl, hlc, hal⟩ := owns_slice how
        have HOW := hid how
        have HSL := hid hsl
        have HNR2 := hid hnr
        have HBW2 := hid hbw
        have HGL := hid hgl
        have HCL := hid hcl
        have HLC := hid hlc
        have HAL := hid hal
        have HYK := hid hyk
        clear how hsl hnr hbw hgl hcl hlc hal
        by_cases hgo : r < nP ∧ 0 < ys.length
        · obtain ⟨hrn, hpos⟩ := hgo
          have l1 : (r : Int) < (nP : Int) := by omega
          have l2 : (0 : Int) < (ys.length : Int) := by omega
          have l3 : (ys.length : Int) ≤ 1048576 := by omega
          have hrp0 : r < ps.length := by rw [HPS.out]; exact hrn
          have hrp : r < (ps.map (Value.int .i64)).length := by rw [List.length_map, HPS.out]; exact hrn
          obtain ⟨gp, op, rfl, cp⟩ := HP.out r hrp
          have cp2 : wr.cell? ⟨gp, op + r, none⟩ = some (.int .i64 (ps[r]'hrp0)) := by have := cell_kept HBW2.out cp; simpa using this
          clear cp
          generalize ps[r]'hrp0 = pv at *
          go_upto_region 17 with (fail)
          obtain ⟨j, hj, ej⟩ := idx_of pv ys.length hpos (by omega)
          rw [ej]
          clear ej
          have hjg : j < gs.length := by rw [← HSL.out.len]; exact hj
          obtain ⟨ay, cy, ey, hby⟩ := HSL.out.each j _ _ (List.getElem?_eq_getElem hj) (List.getElem?_eq_getElem hjg)
          obtain ⟨gl, ol, rfl, cl⟩ := HCL.out j hj
          rw [ey] at cl
          have HCL2 := hid cl
          have HBY := hid hby
          have j1 : (j : Int) < (ys.length : Int) := by omega
          have j2 : (0 : Int) ≤ (j : Int) := by omega
          have HTK := hid (NetR.take HNR2.out hjg)
          have HER : Hid (Slices W (ys.eraseIdx j) (gs.eraseIdx j)) := HSL.out.erase j
          have HGE : Hid (∀ f ∈ gs.eraseIdx j, f.length ≤ 1048576) := fun f hf => HGL.out f (List.mem_of_mem_eraseIdx hf)
          have HON := hid HSL.out.one
          have HEY := hid ey
          clear cl hby ey
          generalize hgj : gs[j] = fj at *
          clear hgj
          go_upto_region 18 with (go_at_call 13; refine Calls.mono HTK.out ?_; rintro e w2 ⟨g2, rfl, hg2, hr2, hn2, hk2⟩; have HR2 := hid hr2; have HN2 := hid hn2; have HK2 := hid hk2; clear hg2 hr2 hn2 hk2)
          refine wp_world fun w3 HW => ?_
          have HA3 : Hid (Below w2.heap.size w2 w3) := by show Below _ _ _; rw [HW.out]; exact below_grow (Below.refl _ _) _
          have HF3 : Hid (Row w3 w2.heap.size [.slice (some ⟨g2, 0, none⟩) fj.length fj.length, .bool false] 32) := by show Row _ _ _ _; rw [HW.out]; exact Row.new' _ _ _ _ _ rfl rfl
          have HB3 : Hid (Below W.heap.size W w3) := (HBW2.out.trans HK2.out.below).trans (HA3.out.mono (Nat.le_trans HBW2.out.size HK2.out.size))
          have HOW3 := hid (owns_keeps (owns_keeps HOW.out HK2.out) (Keeps.of_below (B := 0) HA3.out (Nat.zero_le _)))
          have HN3 := hid (HN2.out.kept HA3.out)
          have HR3 := hid (HR2.out.kept HA3.out HR2.out.lt)
          have c3 : w3.cell? ⟨gl, ol + j, none⟩ = some (.slice ay fj.length cy) := by
            obtain ⟨a1, cap1, e1, h1, _⟩ := owns_slice HOW3.out
            cases e1
            obtain ⟨g4, o4, e2, h2⟩ := h1 j hj
            cases e2
            rw [h2, HEY.out]
          clear HW HTK HR2 HN2 HK2 HOW HNR2
          generalize w2.heap.size = fb at *
          have f0 := HF3.out.cell 0 _ rfl
          have f1 := HF3.out.cell 1 _ rfl
          have HSM : Hid (∀ n, Calls Try.prog 14 #[.slice (some ⟨g2, 0, none⟩) fj.length fj.length, .slice ay fj.length cy] (w3.drewN n) fun e w' => e = .returned (.bool true) ∧ w' = w3.drewN n) := fun n => by
            have h := same_any (w := w3.drewN n) (cap := fj.length) (cap' := cy) (HR3.out.drewN n).bytes rfl ((HBY.out.kept HB3.out).drewN n) rfl
            rwa [decide_eq_true rfl] at h
          go_quiet (first | (go_at_call 14; exact Calls.quiet_of_same (HSM.out _)))
          obtain ⟨w4, hw4⟩ : ∃ w4, w4 = w3.drewN nq := ⟨_, rfl⟩
          rw [← hw4]
          have HD4 : Hid (Below w3.heap.size w3 w4) := by show Below _ _ _; rw [hw4]; exact below_drewN (Below.refl _ _) _
          clear hw4
          have HOW4 := hid (owns_keeps HOW3.out (Keeps.of_below (B := 0) HD4.out (Nat.zero_le _)))
          have HN4 := hid (HN3.out.kept HD4.out)
          have HB4 : Hid (Below W.heap.size W w4) := HB3.out.trans (HD4.out.mono HB3.out.size)
          have HC4 : Hid (CellsAt w4 (some ⟨gl, ol, none⟩) ys) := by
            obtain ⟨a1, cap1, e1, h1, _⟩ := owns_slice HOW4.out
            cases e1
            exact h1
          have HNIL : Hid (w4.ownsRow W.heap.size 22 1 (.slice none 0 0) 0 []) := ⟨rfl, .inl ⟨rfl, rfl⟩⟩
          obtain ⟨v5, w5, hr5, ho5, hg5⟩ := append_l HNIL.out 35 (a := some ⟨gl, ol, none⟩) (n := j) (cap := capl) (ys := ys.take j) (fun i hi => by
            have hi2 : i < ys.length := by simp at hi; omega
            obtain ⟨g4, o4, e4, h4⟩ := HC4.out i hi2
            exact ⟨g4, o4, e4, by rw [h4]; simp⟩) (by simp; omega) (fun y hy => HON.out y (List.mem_of_mem_take hy)) (by omega) HB4.out.size (by simp)
          have HR5 := hid hr5
          have HO5 := hid ho5
          have HG5 := hid hg5
          clear hr5 ho5 hg5 HF3 HR3 HN3 HB3 HOW3 HSM c3 f0 f1 HA3 HD4
          have j3 : (j : Int) ≤ (capl : Int) := by have := HLC.out; omega
          have j4 : j ≤ capl := by have := HLC.out; omega
          go_upto_region 22 with (first | (at_builtin; refine wpList_append_by rfl _ _ _ rfl rfl rfl HR5.out ?_))
          have HN5 := hid (HN4.out.grown HNIL.out HG5.out)
          have HB5 := hid (below_grown HB4.out HNIL.out HG5.out HB4.out.size)
          have HC5 : Hid (CellsAt w5 (if capl = j + 1 then some ⟨gl, ol, none⟩ else some ⟨gl, ol + (j + 1), none⟩) (ys.drop (j + 1))) := fun i hi => by
            have hi2 : j + 1 + i < ys.length := by simp at hi; omega
            obtain ⟨g4, o4, e4, h4⟩ := HC4.out (j + 1 + i) hi2
            cases e4
            refine ⟨gl, ol + (j + 1), by rw [if_neg (by have := HLC.out; omega)], ?_⟩
            have hb : w5.cell? ⟨gl, ol + (j + 1 + i), none⟩ = some ys[j + 1 + i] := HG5.out.cell h4 (by simp [Value.ownBlock])
            rw [show ol + (j + 1) + i = ol + (j + 1 + i) by omega, hb]
            simp
          obtain ⟨v6, w6, hr6, ho6, hg6⟩ := append_l HO5.out 35 (n := ys.length - (j + 1)) (cap := capl - (j + 1)) HC5.out (by simp) (fun y hy => HON.out y (List.mem_of_mem_drop hy)) (by omega) HB5.out.size (by split <;> simp)
          have HR6 := hid hr6
          have HO6 := hid ho6
          have HG6 := hid hg6
          have HYE : Hid (ys.take j ++ ys.drop (j + 1) = ys.eraseIdx j) := (List.eraseIdx_eq_take_drop_succ ys j).symm
          have HYL : Hid ((ys.eraseIdx j).length = 0 + j + (ys.length - (j + 1))) := by show _ = _; rw [List.length_eraseIdx, if_pos hj]; omega
          clear hr6 ho6 hg6
          have j5 : (j : Int) + 1 ≤ (ys.length : Int) := by omega
          have j6 : ((j : Int) + 1).toNat = j + 1 := by omega
          have j7 : (0 : Int) ≤ (j : Int) + 1 := by omega
          go_wp2_with (first | (at_builtin; refine wpList_append_by rfl _ _ _ rfl rfl rfl HR6.out ?_))
          go_roundw
          case rel =>
            refine ⟨r + 1, hrn, by go_num, ys.eraseIdx j, gs.eraseIdx j, ?_, HER.out, HN5.out.grown HO5.out HG6.out, below_grown HB5.out HO5.out HG6.out HB5.out.size, ?_, HGE.out⟩
            · have h := HO6.out
              rw [List.nil_append, HYE.out, ← HYL.out] at h
              exact h
            · have := HYK.out; rw [HYL.out]; omega
          case measure => simp [intOf]; omega
        · by_cases hrn : r < nP
          · have hz : ys.length = 0 := by omega
            have l1 : (r : Int) < (nP : Int) := by omega
            have l2 : decide ((0 : Int) < (ys.length : Int)) = false := decide_eq_false (by omega)
            have l2n : decide (0 < ys.length) = false := decide_eq_false (by omega)
            clear hz hgo
            go_wp2
            go_loopw [18] (fun i wr => ∃ q : Nat, q ≤ ys.length ∧ i = .int .i64 q ∧ wr.ownsRow W.heap.size 22 1 (.slice al ys.length capl) ys.length ys ∧ NetR W.heap.size wr p g d 1073741824 gs ∧ Below W.heap.size W wr) (fun i _ => ys.length - (intOf i).toNat)
            case atStart => exact ⟨0, Nat.zero_le _, rfl, HOW.out, HNR2.out, HBW2.out⟩
            case round =>
              clear HOW HNR2 HBW2 HCL
              obtain ⟨q, hq, rfl, how, hnr, hbw⟩ := hrel
              have HOW := hid how
              have HNR2 := hid hnr
              have HBW2 := hid hbw
              clear how hnr hbw
              by_cases hqy : q < ys.length
              · have hqg : q < gs.length := by rw [← HSL.out.len]; exact hqy
                obtain ⟨ay, cy, ey, hby⟩ := HSL.out.each q _ _ (List.getElem?_eq_getElem hqy) (List.getElem?_eq_getElem hqg)
                have HPK := hid (NetR.peek HNR2.out hqg)
                have HEY := hid ey
                have HBY := hid hby
                have q1 : (q : Int) < (ys.length : Int) := by omega
                have q2 : (0 : Int) ≤ (q : Int) := by omega
                have HQ := hid hqy
                clear ey hby
                generalize hgj : gs[q] = fj at *
                clear hgj
                go_upto_region 27 with (go_at_call 12; refine Calls.mono HPK.out ?_; rintro e w2 ⟨g2, rfl, hg2, hr2, hb2⟩; have HR2 := hid hr2; have HK2 := hid hb2; clear hg2 hr2 hb2)
                refine wp_world fun w3 HW => ?_
                have HA3 : Hid (Below w2.heap.size w2 w3) := by show Below _ _ _; rw [HW.out]; exact below_grow (Below.refl _ _) _
                have HF3 : Hid (Row w3 w2.heap.size [.slice (some ⟨g2, 0, none⟩) fj.length fj.length, .bool false] 32) := by show Row _ _ _ _; rw [HW.out]; exact Row.new' _ _ _ _ _ rfl rfl
                have HAA : Hid (Below wr.heap.size wr w3) := HK2.out.trans (HA3.out.mono HK2.out.size)
                have HB3 : Hid (Below W.heap.size W w3) := HBW2.out.trans (HAA.out.mono HBW2.out.size)
                have HOW3 := hid (owns_keeps HOW.out (Keeps.of_below (B := 0) HAA.out (Nat.zero_le _)))
                have HN3 := hid (HNR2.out.kept HAA.out)
                have HR3 := hid (HR2.out.kept HA3.out HR2.out.lt)
                have c3 : ∃ gl ol, al = some ⟨gl, ol, none⟩ ∧ w3.cell? ⟨gl, ol + q, none⟩ = some (.slice ay fj.length cy) := by
                  obtain ⟨a1, cap1, e1, h1, _⟩ := owns_slice HOW3.out
                  cases e1
                  obtain ⟨g4, o4, e2, h2⟩ := h1 q hqy
                  exact ⟨g4, o4, e2, by rw [h2, HEY.out]⟩
                clear HW HPK HR2 HK2 HOW HNR2 HBW2 HA3 HAA
                obtain ⟨gl, ol, rfl, c3⟩ := c3
                generalize w2.heap.size = fb at *
                have f0 := HF3.out.cell 0 _ rfl
                have f1 := HF3.out.cell 1 _ rfl
                have HSM : Hid (∀ n, Calls Try.prog 14 #[.slice (some ⟨g2, 0, none⟩) fj.length fj.length, .slice ay fj.length cy] (w3.drewN n) fun e w' => e = .returned (.bool true) ∧ w' = w3.drewN n) := fun n => by
                  have h := same_any (w := w3.drewN n) (cap := fj.length) (cap' := cy) (HR3.out.drewN n).bytes rfl ((HBY.out.kept HB3.out).drewN n) rfl
                  rwa [decide_eq_true rfl] at h
                go_quiet (first | (go_at_call 14; exact Calls.quiet_of_same (HSM.out _)))
                obtain ⟨w4, hw4⟩ : ∃ w4, w4 = w3.drewN nq := ⟨_, rfl⟩
                rw [← hw4]
                have HD4 : Hid (Below w3.heap.size w3 w4) := by show Below _ _ _; rw [hw4]; exact below_drewN (Below.refl _ _) _
                clear hw4 c3 f0 f1 HSM
                go_wp2
                go_roundw
                case rel => exact ⟨q + 1, HQ.out, by go_num, owns_keeps HOW3.out (Keeps.of_below (B := 0) HD4.out (Nat.zero_le _)), HN3.out.kept HD4.out, HB3.out.trans (HD4.out.mono HB3.out.size)⟩
                case measure => simp [intOf]; have := HQ.out; omega
              · have eq : q = ys.length := by omega
                subst eq
                have HLK := hid (NetR.look HNR2.out)
                have HGY : Hid (gs.length = ys.length) := HSL.out.len.symm
                have y1 : (ys.length : Int) ≤ 1048576 := by have := HYK.out; have := HB1.out; omega
                go_upto_region 30 with (first
                  | (go_at_call 15; refine Calls.mono HLK.out ?_; rintro e w2 ⟨cv, rfl, hl2, ho2, hx2, hy2, hb2⟩; have HL2 := hid hl2; have HO2 := hid ho2; have HX2 := hid hx2; have HY2 := hid hy2; have HB2 := hid (HBW2.out.trans (hb2.mono HBW2.out.size)); clear hl2 ho2 hx2 hy2 hb2)
                  | (show wpList _ _ _ (Oper.mk none (.store 41 (.tmp 21) (.tmp 148)) _ _ _ _ :: _) _ _; refine Row.wpStore' (Row.new' w2 _ vz 41 _ rfl rfl) 41 (.tmp 21) (.tmp 148) cv rfl rfl rfl rfl (by rw [HL2.out]; rfl) HO2.out (by rw [HL2.out]; exact i41) ?_; intro w3 HZ3))
                have HV3 : Hid (Row w3 w2.heap.size cv 41) := by show Row _ _ _ _; rw [HZ3.out]; exact (Row.new' w2 _ vz 41 _ rfl rfl).row _
                have HB3 : Hid (Below W.heap.size W w3) := by show Below _ _ _; rw [HZ3.out]; exact below_setRow (HB2.out.alloc HB2.out.size _) HB2.out.size _
                generalize w2.heap.size = vb at *
                clear HZ3 HB2 HLK HNR2 HOW
                have v1 := HV3.out.cell _ _ HX2.out
                rw [HGY.out] at v1
                have v2 : w3.cell? ⟨vb, 2 + (1 - d), none⟩ = some (.int .i64 0) := by
                  have hd := HD.out
                  rw [show 2 + (1 - d) = 3 - d by omega]
                  exact HV3.out.cell _ _ HY2.out
                have d1 : (0 : Int) ≤ (d : Int) := by omega
                have d2 : (d : Int) < 2 := by have := HD.out; omega
                have d3 : (0 : Int) ≤ 1 - (d : Int) := by omega
                have d4 : 1 - (d : Int) < 2 := by omega
                have HAV := hid (alive_any w3)
                go_wp2_with (go_at_call 16; refine Calls.mono HAV.out ?_; rintro e w4 ⟨rfl, hb4⟩; have HB4 := hid (HB3.out.trans (hb4.mono HB3.out.size)); clear hb4)
                go_ret
                exact ⟨rfl, HB4.out⟩
          · have l1 : decide ((r : Int) < (nP : Int)) = false := decide_eq_false (by omega)
            have l1n : decide (r < nP) = false := decide_eq_false (by omega)
            clear hgo
            go_wp2
            go_loopw [18] (fun i wr => ∃ q : Nat, q ≤ ys.length ∧ i = .int .i64 q ∧ wr.ownsRow W.heap.size 22 1 (.slice al ys.length capl) ys.length ys ∧ NetR W.heap.size wr p g d 1073741824 gs ∧ Below W.heap.size W wr) (fun i _ => ys.length - (intOf i).toNat)
            case atStart => exact ⟨0, Nat.zero_le _, rfl, HOW.out, HNR2.out, HBW2.out⟩
            case round =>
              clear HOW HNR2 HBW2 HCL
              obtain ⟨q, hq, rfl, how, hnr, hbw⟩ := hrel
              have HOW := hid how
              have HNR2 := hid hnr
              have HBW2 := hid hbw
              clear how hnr hbw
              by_cases hqy : q < ys.length
              · have hqg : q < gs.length := by rw [← HSL.out.len]; exact hqy
                obtain ⟨ay, cy, ey, hby⟩ := HSL.out.each q _ _ (List.getElem?_eq_getElem hqy) (List.getElem?_eq_getElem hqg)
                have HPK := hid (NetR.peek HNR2.out hqg)
                have HEY := hid ey
                have HBY := hid hby
                have q1 : (q : Int) < (ys.length : Int) := by omega
                have q2 : (0 : Int) ≤ (q : Int) := by omega
                have HQ := hid hqy
                clear ey hby
                generalize hgj : gs[q] = fj at *
                clear hgj
                go_upto_region 27 with (go_at_call 12; refine Calls.mono HPK.out ?_; rintro e w2 ⟨g2, rfl, hg2, hr2, hb2⟩; have HR2 := hid hr2; have HK2 := hid hb2; clear hg2 hr2 hb2)
                refine wp_world fun w3 HW => ?_
                have HA3 : Hid (Below w2.heap.size w2 w3) := by show Below _ _ _; rw [HW.out]; exact below_grow (Below.refl _ _) _
                have HF3 : Hid (Row w3 w2.heap.size [.slice (some ⟨g2, 0, none⟩) fj.length fj.length, .bool false] 32) := by show Row _ _ _ _; rw [HW.out]; exact Row.new' _ _ _ _ _ rfl rfl
                have HAA : Hid (Below wr.heap.size wr w3) := HK2.out.trans (HA3.out.mono HK2.out.size)
                have HB3 : Hid (Below W.heap.size W w3) := HBW2.out.trans (HAA.out.mono HBW2.out.size)
                have HOW3 := hid (owns_keeps HOW.out (Keeps.of_below (B := 0) HAA.out (Nat.zero_le _)))
                have HN3 := hid (HNR2.out.kept HAA.out)
                have HR3 := hid (HR2.out.kept HA3.out HR2.out.lt)
                have c3 : ∃ gl ol, al = some ⟨gl, ol, none⟩ ∧ w3.cell? ⟨gl, ol + q, none⟩ = some (.slice ay fj.length cy) := by
                  obtain ⟨a1, cap1, e1, h1, _⟩ := owns_slice HOW3.out
                  cases e1
                  obtain ⟨g4, o4, e2, h2⟩ := h1 q hqy
                  exact ⟨g4, o4, e2, by rw [h2, HEY.out]⟩
                clear HW HPK HR2 HK2 HOW HNR2 HBW2 HA3 HAA
                obtain ⟨gl, ol, rfl, c3⟩ := c3
                generalize w2.heap.size = fb at *
                have f0 := HF3.out.cell 0 _ rfl
                have f1 := HF3.out.cell 1 _ rfl
                have HSM : Hid (∀ n, Calls Try.prog 14 #[.slice (some ⟨g2, 0, none⟩) fj.length fj.length, .slice ay fj.length cy] (w3.drewN n) fun e w' => e = .returned (.bool true) ∧ w' = w3.drewN n) := fun n => by
                  have h := same_any (w := w3.drewN n) (cap := fj.length) (cap' := cy) (HR3.out.drewN n).bytes rfl ((HBY.out.kept HB3.out).drewN n) rfl
                  rwa [decide_eq_true rfl] at h
                go_quiet (first | (go_at_call 14; exact Calls.quiet_of_same (HSM.out _)))
                obtain ⟨w4, hw4⟩ : ∃ w4, w4 = w3.drewN nq := ⟨_, rfl⟩
                rw [← hw4]
                have HD4 : Hid (Below w3.heap.size w3 w4) := by show Below _ _ _; rw [hw4]; exact below_drewN (Below.refl _ _) _
                clear hw4 c3 f0 f1 HSM
                go_wp2
                go_roundw
                case rel => exact ⟨q + 1, HQ.out, by go_num, owns_keeps HOW3.out (Keeps.of_below (B := 0) HD4.out (Nat.zero_le _)), HN3.out.kept HD4.out, HB3.out.trans (HD4.out.mono HB3.out.size)⟩
                case measure => simp [intOf]; have := HQ.out; omega
              · have eq : q = ys.length := by omega
                subst eq
                have HLK := hid (NetR.look HNR2.out)
                have HGY : Hid (gs.length = ys.length) := HSL.out.len.symm
                have y1 : (ys.length : Int) ≤ 1048576 := by have := HYK.out; have := HB1.out; omega
                go_upto_region 30 with (first
                  | (go_at_call 15; refine Calls.mono HLK.out ?_; rintro e w2 ⟨cv, rfl, hl2, ho2, hx2, hy2, hb2⟩; have HL2 := hid hl2; have HO2 := hid ho2; have HX2 := hid hx2; have HY2 := hid hy2; have HB2 := hid (HBW2.out.trans (hb2.mono HBW2.out.size)); clear hl2 ho2 hx2 hy2 hb2)
                  | (show wpList _ _ _ (Oper.mk none (.store 41 (.tmp 21) (.tmp 148)) _ _ _ _ :: _) _ _; refine Row.wpStore' (Row.new' w2 _ vz 41 _ rfl rfl) 41 (.tmp 21) (.tmp 148) cv rfl rfl rfl rfl (by rw [HL2.out]; rfl) HO2.out (by rw [HL2.out]; exact i41) ?_; intro w3 HZ3))
                have HV3 : Hid (Row w3 w2.heap.size cv 41) := by show Row _ _ _ _; rw [HZ3.out]; exact (Row.new' w2 _ vz 41 _ rfl rfl).row _
                have HB3 : Hid (Below W.heap.size W w3) := by show Below _ _ _; rw [HZ3.out]; exact below_setRow (HB2.out.alloc HB2.out.size _) HB2.out.size _
                generalize w2.heap.size = vb at *
                clear HZ3 HB2 HLK HNR2 HOW
                have v1 := HV3.out.cell _ _ HX2.out
                rw [HGY.out] at v1
                have v2 : w3.cell? ⟨vb, 2 + (1 - d), none⟩ = some (.int .i64 0) := by
                  have hd := HD.out
                  rw [show 2 + (1 - d) = 3 - d by omega]
                  exact HV3.out.cell _ _ HY2.out
                have d1 : (0 : Int) ≤ (d : Int) := by omega
                have d2 : (d : Int) < 2 := by have := HD.out; omega
                have d3 : (0 : Int) ≤ 1 - (d : Int) := by omega
                have d4 : 1 - (d : Int) < 2 := by omega
                have HAV := hid (alive_any w3)
                go_wp2_with (go_at_call 16; refine Calls.mono HAV.out ?_; rintro e w4 ⟨rfl, hb4⟩; have HB4 := hid (HB3.out.trans (hb4.mono HB3.out.size)); clear hb4)
                go_ret
                exact ⟨rfl, HB4.out⟩
end Go.Proofs.Ytjnmfedefmemnaa
