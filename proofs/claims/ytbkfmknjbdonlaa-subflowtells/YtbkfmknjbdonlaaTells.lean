import Derived.Test.YtbkfmknjbdonlaaSeen0
import Derived.Test.YtbkfmknjbdonlaaCellsU
namespace Go.Proofs.Ytbkfmknjbdonlaa
open Go.RowKit
set_option maxRecDepth 100000

theorem info36 : (Try.prog.info? 36).map (fun i => (i.zero, i.size, i.bytes)) = some (some (.int .u64 0), 1, 8) := by kernel_rfl
theorem own_viewU {w : World} {base : Nat} {v : Value} {X : List Int} (h : w.ownsRow base 36 1 v X.length (X.map (Value.int .u64))) : ∃ a cap, v = .slice a X.length cap ∧ ∀ k (hk : k < X.length), ∃ g, a = some ⟨g, 0, none⟩ ∧ w.cell? ⟨g, k, none⟩ = some (.int .u64 X[k]) := by
  rcases h.2 with ⟨rfl, h0⟩ | ⟨g, cap, cur, rfl, h1, h2, h3, h4, h5, h6⟩
  · exact ⟨none, 0, by rw [h0], fun k hk => by omega⟩
  · refine ⟨_, cap, rfl, fun k hk => ⟨g, rfl, ?_⟩⟩
    rw [cell_of_row w g _ _ _ _ h2]
    have := congrArg (fun l => l[k]?) h6
    simp only [Nat.mul_one] at this
    rw [List.getElem?_take_of_lt hk] at this
    simpa [hk] using this
theorem own_turned {w w' : World} {base p : Nat} {v v' u : Value} {L : List Rg} {n : Nat} {xs : List Value} (h : w.ownsRow base 36 1 u n xs) (S : SenAt w p v L) (T : Turned w w' p v v') : w'.ownsRow base 36 1 u n xs := by
  refine ⟨h.1, ?_⟩
  rcases h.2 with ⟨rfl, h0⟩ | ⟨g, cap, cur, rfl, h1, h2, h3⟩
  · exact .inl ⟨rfl, h0⟩
  · refine .inr ⟨g, cap, cur, rfl, h1, (T.block g (Array.getElem?_eq_some_iff.1 h2).1 (fun e => ?_) (fun e => ?_)).trans h2, h3⟩
    · subst e; rw [S.hp] at h2; simp at h2
    · rcases S.own.2 with ⟨rfl, _⟩ | ⟨g', _, _, rfl, _, k2, _⟩
      · simp [Value.ownBlock] at e
      · simp only [Value.ownBlock, Option.some.injEq] at e
        rw [← e, h2] at k2
        simp at k2
theorem sown_kept {B : Nat} {w w' : World} {p : Nat} {v u : Value} {L : List Rg} {base n : Nat} {xs : List Value} (O : SOwn B w p v L) (h : w.ownsRow base 36 1 u n xs) (hg : w.grownBy w' u.ownBlock) : SOwn B w' p v L := by
  have hp : ∀ x, u.ownBlock = some x → x ≠ p ∧ v.ownBlock ≠ some x := fun x e => by
    rcases h.2 with ⟨rfl, _⟩ | ⟨g, _, _, rfl, _, h2, _⟩
    · simp [Value.ownBlock] at e
    · simp only [Value.ownBlock, Option.some.injEq] at e
      subst e
      refine ⟨fun e => ?_, fun e => ?_⟩
      · subst e; rw [O.set.hp] at h2; simp at h2
      · rcases O.set.own.2 with ⟨rfl, _⟩ | ⟨g', _, _, rfl, _, k2, _⟩
        · simp [Value.ownBlock] at e
        · simp only [Value.ownBlock, Option.some.injEq] at e
          rw [e, h2] at k2
          simp at k2
  refine ⟨⟨(hg.block p (Array.getElem?_eq_some_iff.1 O.set.hp).1 (fun e => (hp p e.symm).1 rfl)).trans O.set.hp, own_kept O.set.own hg (fun g e1 e2 => (hp g e2).2 e1)⟩, O.at_, O.row⟩
def inX (X : List Int) (x : Int) : Bool := X.any fun y => decide (x = y)
theorem inX_iff (X : List Int) (x : Int) : inX X x = true ↔ x ∈ X := by
  unfold inX
  rw [List.any_eq_true]
  simp
theorem inX_snoc (X : List Int) (k : Nat) (h : k < X.length) (x : Int) : inX (X.take (k + 1)) x = (inX (X.take k) x || decide (x = X[k])) := by
  unfold inX
  rw [List.take_succ_eq_append_getElem h, List.any_append]
  simp
def topX (x : Int) (X : List Int) : Int := X.foldl max x
theorem topX_snoc (x : Int) (X : List Int) (k : Nat) (h : k < X.length) : topX x (X.take (k + 1)) = max (topX x (X.take k)) X[k] := by
  unfold topX
  rw [List.take_succ_eq_append_getElem h, List.foldl_append]
  rfl
theorem topX_mem : ∀ (X : List Int) (x : Int), (topX x X = x ∨ topX x X ∈ X) ∧ x ≤ topX x X ∧ ∀ y ∈ X, y ≤ topX x X
  | [], x => by simp [topX]
  | a :: X, x => by
    have ih := topX_mem X (max x a)
    have e : topX x (a :: X) = topX (max x a) X := rfl
    rw [e]
    refine ⟨?_, by omega, fun y hy => ?_⟩
    · rcases ih.1 with h | h
      · rw [h]
        by_cases hx : a ≤ x
        · left; omega
        · right; rw [show max x a = a by omega]; simp
      · right; simp [h]
    · rcases List.mem_cons.1 hy with rfl | h
      · omega
      · exact ih.2.2 y h
theorem lastHi_last {L : List Rg} (h : 0 < L.length) : lastHi L = (L[L.length - 1]'(by omega)).2 := by
  have hne : L ≠ [] := by rintro rfl; simp at h
  obtain ⟨S', t, rfl⟩ : ∃ S' t, L = S' ++ [t] := ⟨L.dropLast, L.getLast hne, (List.dropLast_concat_getLast hne).symm⟩
  rw [lastHi_snoc]
  simp
structure TelAt (w wr : World) (B p : Nat) (vs : Value) (L : List Rg) (X : List Int) (s4 : Value) : Prop where
  sen : SOwn w.heap.size wr p vs L
  fit : Fit L
  mm : ∀ y, mem L y ↔ y ∈ X
  rng : ∀ y ∈ X, 0 ≤ y ∧ y < 60
  came : wr.ownsRow B 36 1 s4 X.length (X.map (Value.int .u64))
  bel : Below w.heap.size w wr
theorem TelAt.kept {w wr wu : World} {B p : Nat} {vs : Value} {L : List Rg} {X : List Int} {s4 : Value} (t : TelAt w wr B p vs L X s4) (hb : Below wr.heap.size wr wu) : TelAt w wu B p vs L X s4 := ⟨t.sen.kept hb, t.fit, t.mm, t.rng, own_below t.came hb, t.bel.trans (hb.mono t.bel.size)⟩
theorem TelAt.few {w wr : World} {B p : Nat} {vs : Value} {L : List Rg} {X : List Int} {s4 : Value} (t : TelAt w wr B p vs L X s4) : L.length ≤ 30 := few_stretches t.fit (fun y hy => (t.rng y ((t.mm y).1 hy)).2)
set_option maxHeartbeats 8000000 in
theorem tells_any {w : World} {a : Option Addr} {len cap : Nat} {xs : List Int} (C : CellsAt w a (xs.map (Value.int .u64))) (hl : xs.length = len) (hlen : len * 8 ≤ 140737488355328) (hxs : ∀ y ∈ xs, 0 ≤ y ∧ y ≤ 18446744073709551615) :
    Calls Try.prog 7 #[.slice a len cap] w fun e w' => e = .returned (.bool true) ∧ Below w.heap.size w w' := by
  have HC := hid C
  have HX := hid hxs
  clear C hxs
  obtain ⟨i3, hi3, hz30, hz31, hz32⟩ := info_parts info36
  go_enter Try.func7, Try.ntmps7
  go_wp2_with (first | (go_at_call 9; refine (seennew_any w).mono ?_; rintro e w1 ⟨p, vs, rfl, hO, hbl⟩; have H1 := hid hO; have HB1 := hid hbl; clear hO hbl) | (go_at_call 18; refine (awake_any _).mono ?_; rintro e w2 ⟨rfl, hb⟩; have H2 := hid (SOwn.kept H1.out hb); have HB2 := hid (HB1.out.trans (hb.mono HB1.out.size)); clear hb))
  obtain ⟨w0, hw0⟩ : ∃ w0, w0 = w2 := ⟨_, rfl⟩
  rw [← hw0] at H2 HB2 ⊢
  clear hw0 H1 HB1
  have HWW := hid (show w.heap.size ≤ w0.heap.size from HB2.out.size)
  have HT0 : Hid (TelAt w w0 w0.heap.size p vs [] [] (.slice none 0 0)) := ⟨H2.out, ⟨(by simp), (by simp)⟩, (fun y => by simp [mem]), (by simp), ⟨rfl, .inl ⟨rfl, rfl⟩⟩, HB2.out⟩
  clear H2 HB2
  go_loopw [4, 27] (fun s4 s27 wr => ∃ (k : Nat) (vs : Value) (L : List Rg) (X : List Int), k ≤ len ∧ X.length = k ∧ s27 = .int .i64 k ∧ w0.heap.size ≤ wr.heap.size ∧ TelAt w wr w0.heap.size p vs L X s4) (fun _ s _ => len - (intOf s).toNat)
  case atStart => exact ⟨0, vs, [], [], Nat.zero_le _, rfl, rfl, Nat.le_refl _, HT0.out⟩
  case round =>
    obtain ⟨k, vs1, L, X, hk, hXk, rfl, hwz, hT⟩ := hrel
    have HT := hid hT
    have HWZ := hid hwz
    have HXK := hid hXk
    have hXb0 : X.length ≤ 17592186044416 := by omega
    have HXL := hid (show k < len → X.length + 1 ≤ maxLen ∧ (X.length + 1) * 8 ≤ 140737488355328 from fun _ => ⟨by unfold maxLen; omega, by omega⟩)
    clear hT hwz HT0 hXk
    by_cases hlt : k < len
    · obtain ⟨ga, oa, rfl, cx⟩ := HC.out k (by rw [List.length_map]; omega)
      have cy := rcell_kept (HT.out.bel) cx
      rw [List.getElem_map] at cy
      have hn := HX.out (xs[k]'(by omega)) (List.getElem_mem _)
      generalize xs[k]'(by omega) = n at cy hn
      have hki : (k : Int) < (len : Int) := by omega
      have em : n.tmod 60 = n % 60 := Int.tmod_eq_emod_of_nonneg hn.1
      obtain ⟨x, hx⟩ : ∃ x, x = n % 60 := ⟨_, rfl⟩
      rw [← hx] at em
      have hx60 : 0 ≤ x ∧ x < 60 := by omega
      have ewx : IntKind.u64.wrap x = x := wrapu _ (by omega) (by omega)
      clear cx hx hn
      obtain ⟨a4, d4, e4, hv4⟩ := own_viewU HT.out.came
      subst e4
      have HV4 := hid hv4
      clear hv4
      go_wp2_with fail
      obtain ⟨wo, hwo⟩ : ∃ wo, wo = wr := ⟨_, rfl⟩
      rw [← hwo] at HT HWZ HV4 cy ⊢
      clear hwo cy
      go_loopw [7, 8, 36] (fun s7 s8 s36 wr => ∃ j : Nat, j ≤ X.length ∧ s36 = .int .i64 j ∧ s7 = .bool (inX (X.take j) x) ∧ s8 = .int .u64 (topX x (X.take j)) ∧ wr = wo) (fun _ _ s _ => X.length - (intOf s).toNat)
      case atStart => exact ⟨0, Nat.zero_le _, rfl, rfl, rfl, rfl⟩
      case round =>
        obtain ⟨j, hj, rfl, rfl, rfl, rfl⟩ := hrel
        by_cases hjl : j < X.length
        · obtain ⟨g4, rfl, c4⟩ := HV4.out j hjl
          have HS1 := hid (inX_snoc X j hjl x)
          have HS2 := hid (topX_snoc x X j hjl)
          generalize X[j] = y at *
          have hji : (j : Int) < (X.length : Int) := by omega
          cases hin : inX (X.take j) x
          · rw [hin] at HS1
            go_wp2
            go_roundw
            case rel => exact ⟨j + 1, hjl, by first | go_num | (rw [Int.natCast_succ]), by rw [HS1.out]; simp; rfl, by rw [HS2.out], by first | rfl | trivial⟩
            case measure => simp [intOf]; omega
          · rw [hin] at HS1
            go_wp2
            go_roundw
            case rel => exact ⟨j + 1, hjl, by first | go_num | (rw [Int.natCast_succ]), by rw [HS1.out]; simp, by rw [HS2.out], by first | rfl | trivial⟩
            case measure => simp [intOf]; omega
        · have ej : j = X.length := by omega
          have hji : decide ((j : Int) < ((X.length : Nat) : Int)) = false := decide_eq_false (by omega)
          rw [ej, List.take_length]
          have hm2 := addL_mem HT.out.fit (x, x + 1)
          have hfA : Fit (addL L (x, x + 1)) := addL_fit HT.out.fit (x, x + 1) hx60.1 (by simp only; omega)
          have hmA : ∀ y, mem (addL L (x, x + 1)) y ↔ y ∈ X ++ [x] := fun y => by
            rw [hm2, HT.out.mm, List.mem_append, List.mem_singleton]
            simp only
            constructor
            · rintro (h | h)
              · exact .inl h
              · right; omega
            · rintro (h | h)
              · exact .inl h
              · right; omega
          have hrA : ∀ y ∈ X ++ [x], 0 ≤ y ∧ y < 60 := fun y hy => by
            rcases List.mem_append.1 hy with h | h
            · exact HT.out.rng y h
            · rw [List.mem_singleton.1 h]; exact hx60
          have hfew : (addL L (x, x + 1)).length ≤ 30 := few_stretches hfA (fun y hy => (hrA y ((hmA y).1 hy)).2)
          have hG := got_few HT.out.sen HT.out.fit (by have := HT.out.few; omega) x hx60.1 (by omega) (by omega)
          have hfr : decide (0 < freshOf L (x, x + 1)) = !inX X x := by
            have hf := fresh_one HT.out.fit x hx60.1 (by omega)
            cases e : inX X x with
            | true => rw [hf.1 ((HT.out.mm x).2 ((inX_iff X x).1 e))]; rfl
            | false => rw [hf.2 (fun h => by rw [(inX_iff X x).2 ((HT.out.mm x).1 h)] at e; cases e)]; rfl
          rw [hfr] at hG
          have htop := topX_mem X x
          have htl : lastHi (addL L (x, x + 1)) = topX x X + 1 := lastHi_of hfA ((hmA _).2 (by rcases htop.1 with h | h; rw [h]; simp; simp [h])) (fun y hy => by
            rcases List.mem_append.1 ((hmA y).1 hy) with h | h
            · exact htop.2.2 y h
            · rw [List.mem_singleton.1 h]; exact htop.2.1)
          have htb : 0 ≤ topX x X ∧ topX x X < 60 := by
            rcases htop.1 with h | h
            · rw [h]; exact hx60
            · exact HT.out.rng _ h
          have HL2 := hid (And.intro hfA (And.intro hmA (And.intro hrA htl)))
          generalize topX x X = tp at *
          obtain ⟨A, hA⟩ : ∃ A, A = addL L (x, x + 1) := ⟨_, rfl⟩
          rw [← hA] at hG hfew HL2
          clear hm2 hfA hmA hrA hfr htop htl hA
          have ewt : IntKind.u64.wrap (tp + 1) = tp + 1 := wrapu _ (by omega) (by omega)
          have HXB := hid (HXL.out hlt)
          clear ej
          cases hin : inX X x
          all_goals
            rw [hin] at hG
            go_upto_region 19 with (go_at_call 10; refine hG.mono ?_; rintro e w3 ⟨rfl, vs3, hO3, hb3, hT3⟩; have H3 := hid hO3; have HC3 := hid (own_turned HT.out.came HT.out.sen.set hT3); have HB3 := hid (HT.out.bel.trans hb3); have HZ3 := hid (Nat.le_trans HWZ.out hT3.size); clear hO3 hb3 hT3 hG)
            go_upto_region 20 with (at_builtin; refine wpList_append_own _ rfl _ _ 22 rfl w0.heap.size 36 i3 (.int .u64 0) 1 8 Try.underlying22 hi3 hz30 hz31 hz32 rfl (by decide) (.slice a4 X.length d4) X.length (X.map (Value.int .u64)) rfl (World.ownsRow.alloc HC3.out _) ⟨w3.heap.size, 0, none⟩ 1 1 [.int .u64 x] rfl rfl (box_range w3 36 _) (by simp [Value.oneCell']) HXB.out.1 HXB.out.2 (by have := HZ3.out; simp; omega) ?_; intro v5 w5 h5 g5 _; have H5' := hid h5; have HG5 := hid g5; clear h5 g5)
            have hg3 := World.grownBy_alloc w3 (.cells #[.int .u64 x] 36) none
            have H5 : Hid (w5.ownsRow w0.heap.size 36 1 v5 (X ++ [x]).length ((X ++ [x]).map (Value.int .u64))) := by rw [List.length_append, List.map_append]; exact H5'.out
            have HS5 := hid (sown_kept ((H3.out.kept (grown_below hg3))) (own_below HC3.out (grown_below hg3)) HG5.out)
            have HB5 : Hid (Below w.heap.size w w5) := (HB3.out.trans ((grown_below hg3).mono HB3.out.size)).grown HG5.out (Nat.le_trans HB3.out.size hg3.size) (fun y e => Nat.le_trans HWW.out (own_ge HC3.out e))
            have HT5 : Hid (TelAt w w5 w0.heap.size p vs3 A (X ++ [x]) v5) := ⟨HS5.out, HL2.out.1, HL2.out.2.1, HL2.out.2.2.1, H5.out, HB5.out⟩
            have HZ5 := hid (Nat.le_trans HZ3.out (Nat.le_trans hg3.size HG5.out.size))
            have HLH := hid HL2.out.2.2.2
            obtain ⟨sa, sc, _, hVw⟩ := HT5.out.sen.set.view (by omega)
            have hRg := sranges_any hVw (by omega)
            clear H3 HC3 HB3 HZ3 hg3 H5' HG5 H5 HS5 HB5 HL2 hVw
            obtain ⟨K, hK⟩ : ∃ K, K = A.length - 8 := ⟨_, rfl⟩
            obtain ⟨M, hM⟩ : ∃ M, M = A.length - K := ⟨_, rfl⟩
            have hApos : 0 < A.length := by
              rcases Nat.eq_zero_or_pos A.length with h | h
              · have hx := (HT5.out.mm x).2 (by simp)
                rw [List.eq_nil_of_length_eq_zero h] at hx
                simp [mem] at hx
              · exact h
            rw [← hK, ← hM] at hRg
            have hMb : 1 ≤ M ∧ M ≤ 8 ∧ K + M = A.length := by omega
            have HKM := hid (And.intro hK hM)
            clear hK hM
            go_upto_region 21 with (go_at_call 12; refine hRg.mono ?_; rintro e w6 ⟨gr, rfl, hgr, hro, hb6⟩; have HRO := hid hro; have HT6 := hid (HT5.out.kept hb6); have HZ6 := hid (Nat.le_trans HZ5.out hb6.size); clear hgr hro hb6 hRg)
            have HCE : Hid (∀ i (hi : i < M), w6.cell? ⟨gr, K * 2 + i * 2, none⟩ = some (.int .u64 (A[K + i]'(by omega)).1) ∧ w6.cell? ⟨gr, K * 2 + i * 2 + 1, none⟩ = some (.int .u64 (A[K + i]'(by omega)).2)) := fun i hi => by
              have := row_pair HRO.out (K + i) (by omega)
              rw [show (K + i) * 2 = K * 2 + i * 2 by omega] at this
              exact this
            have hlastc := (HCE.out (M - 1) (by omega)).2
            have hlv : (A[K + (M - 1)]'(by omega)).2 = tp + 1 := by
              rw [← HLH.out, lastHi_last hApos]
              congr 2
              omega
            rw [hlv] at hlastc
            have ewM : wrap64 ((M : Int) - 1) = ((M - 1 : Nat) : Int) := by unfold wrap64; omega
            have ewM' : IntKind.i64.wrap ((M : Int) - 1) = ((M - 1 : Nat) : Int) := by rw [IntKind.wrap_i64]; omega
            have hMi : ((M - 1 : Nat) : Int) < (M : Int) := by omega
            have hM0 : ((M : Int) == 0) = false := by rw [beq_eq_false_iff_ne]; omega
            have hM8 : decide ((8 : Int) < (M : Int)) = false := decide_eq_false (by omega)
            clear hlv
            go_wp2_with fail
            obtain ⟨Y, hY⟩ : ∃ Y, Y = X ++ [x] := ⟨_, rfl⟩
            rw [← hY] at HT6
            have hYl : Y.length ≤ 17592186044417 := by rw [hY, List.length_append]; simp; omega
            have HYY := hid hY
            obtain ⟨a5, d5, e5, hv5⟩ := own_viewU HT6.out.came
            subst e5
            have HV5 := hid hv5
            clear hv5 hY hlastc hM0 hM8 ewM ewM' hMi
            obtain ⟨wp, hwp⟩ : ∃ wp, wp = w6 := ⟨_, rfl⟩
            rw [← hwp] at HT6 HZ6 HCE HV5 HRO
            rw [← hwp]
            clear hwp
            go_loopw [83] (fun s wr => ∃ i : Nat, i ≤ M ∧ s = .int .i64 i ∧ Below wp.heap.size wp wr) (fun s _ => M - (intOf s).toNat)
            case atStart => exact ⟨0, Nat.zero_le _, rfl, Below.refl _ _⟩
            case round =>
              obtain ⟨i, hiM, rfl, hbi⟩ := hrel
              have HBI := hid hbi
              clear hbi
              by_cases hil : i < M
              · obtain ⟨c0, c1⟩ := HCE.out i hil
                have d0 := rcell_kept HBI.out c0
                have d1 := rcell_kept HBI.out c1
                have hfr := HT6.out.fit.1 _ (List.getElem_mem (show K + i < A.length by omega))
                have HMM : Hid (∀ y, (A[K + i]'(by omega)).1 ≤ y → y < (A[K + i]'(by omega)).2 → y ∈ Y) := fun y h1 h2 => (HT6.out.mm y).1 ⟨_, List.getElem_mem (show K + i < A.length by omega), h1, h2⟩
                have HPR : Hid (0 < i → ∃ ph, wr.cell? ⟨gr, K * 2 + (i - 1) * 2 + 1, none⟩ = some (.int .u64 ph) ∧ ph < (A[K + i]'(by omega)).1) := fun h0 => by
                  refine ⟨_, rcell_kept HBI.out (HCE.out (i - 1) (by omega)).2, ?_⟩
                  have := List.pairwise_iff_getElem.1 HT6.out.fit.2 (K + (i - 1)) (K + i) (by omega) (by omega) (by omega)
                  exact this
                clear c0 c1
                generalize A[K + i]'(by omega) = r at *
                obtain ⟨lo, hi⟩ := r
                simp only at d0 d1 hfr HMM HPR
                have hii : (i : Int) < (M : Int) := by omega
                have eg1 : decide (hi ≤ lo) = false := decide_eq_false (by omega)
                have HBB := hid (below_grow (Below.refl wr.heap.size wr) (.cells #[.int .u64 lo, .int .u64 hi] 58))
                have b0 := box_cell wr 58 #[.int .u64 lo, .int .u64 hi] 0 _ rfl
                have b1 := box_cell wr 58 #[.int .u64 lo, .int .u64 hi] 1 _ rfl
                go_upto_region 26 with (fail)
                obtain ⟨bx, hbx⟩ : ∃ bx, bx = wr.heap.size := ⟨_, rfl⟩
                obtain ⟨wb, hwb⟩ : ∃ wb, wb = wr.alloc (.cells #[.int .u64 lo, .int .u64 hi] 58) := ⟨_, rfl⟩
                rw [← hwb, ← hbx] at b0 b1
                rw [← hwb, ← hbx]
                have HB7 : Hid (Below wp.heap.size wp wb) := by rw [hwb]; exact HBI.out.alloc HBI.out.size _
                have HPC : Hid (0 < i → ∃ ph, wb.cell? ⟨gr, K * 2 + (i - 1) * 2 + 1, none⟩ = some (.int .u64 ph) ∧ ph < lo) := fun h0 => by
                  obtain ⟨ph, h1, h2⟩ := HPR.out h0
                  rw [hwb]
                  exact ⟨ph, rcell_kept HBB.out h1, h2⟩
                clear hwb hbx HBB HPR d0 d1
                by_cases hi0 : i = 0
                · subst hi0
                  go_quiet (fail)
                  go_wp2_with fail
                  have HB8 := hid (below_drewN HB7.out nq)
                  have k1 : (wb.drewN nq).cell? ⟨bx, 1, none⟩ = some (.int .u64 hi) := b1
                  have HLH4 := hid hfr
                  obtain ⟨wl, hwl⟩ : ∃ wl, wl = wb.drewN nq := ⟨_, rfl⟩
                  rw [← hwl] at HB8 k1
                  rw [← hwl]
                  clear hwl b0 b1
                  go_loopw [14] (fun s wr => ∃ y : Int, lo ≤ y ∧ y ≤ hi ∧ s = .int .u64 y ∧ Below wl.heap.size wl wr) (fun s _ => (hi - intOf s).toNat)
                  case atStart => exact ⟨lo, Int.le_refl _, by omega, rfl, Below.refl _ _⟩
                  case round =>
                    obtain ⟨y, hy0, hy1, rfl, hb4⟩ := hrel
                    have HB4 := hid hb4
                    clear hb4
                    have l1 := rcell_kept HB4.out k1
                    by_cases hyh : y < hi
                    · have hyY := hid ((inX_iff Y y).2 (HMM.out y hy0 hyh))
                      have ewy : IntKind.u64.wrap (y + 1) = y + 1 := wrapu _ (by omega) (by omega)
                      go_wp2_with fail
                      obtain ⟨wm, hwm⟩ : ∃ wm, wm = wr := ⟨_, rfl⟩
                      rw [← hwm] at HB4 l1
                      rw [← hwm]
                      clear hwm
                      have HV6 := hid (fun j hj => by
                        obtain ⟨g5, e5, c5⟩ := HV5.out j hj
                        exact (⟨g5, e5, rcell_kept HB4.out (rcell_kept HB8.out c5)⟩ : ∃ g5, a5 = some ⟨g5, 0, none⟩ ∧ wm.cell? ⟨g5, j, none⟩ = some (.int .u64 Y[j])))
                      go_loopw [15, 118] (fun s15 s118 wr => ∃ j : Nat, j ≤ Y.length ∧ s118 = .int .i64 j ∧ s15 = .bool (inX (Y.take j) y) ∧ wr = wm) (fun _ s _ => Y.length - (intOf s).toNat)
                      case atStart => exact ⟨0, Nat.zero_le _, rfl, rfl, rfl⟩
                      case round =>
                        obtain ⟨j, hj, rfl, rfl, rfl⟩ := hrel
                        by_cases hjl : j < Y.length
                        · obtain ⟨g5, rfl, c5⟩ := HV6.out j hjl
                          have HS1 := hid (inX_snoc Y j hjl y)
                          generalize Y[j] = z at *
                          have hji : (j : Int) < (Y.length : Int) := by omega
                          cases hin5 : inX (Y.take j) y
                          · rw [hin5] at HS1
                            go_wp2
                            go_roundw
                            case rel => exact ⟨j + 1, hjl, by first | go_num | (rw [Int.natCast_succ]), by rw [HS1.out]; simp; rfl, by first | rfl | trivial⟩
                            case measure => simp [intOf]; omega
                          · rw [hin5] at HS1
                            go_wp2
                            go_roundw
                            case rel => exact ⟨j + 1, hjl, by first | go_num | (rw [Int.natCast_succ]), by rw [HS1.out]; simp, by first | rfl | trivial⟩
                            case measure => simp [intOf]; omega
                        · have ej : j = Y.length := by omega
                          have hji : decide ((j : Int) < (Y.length : Int)) = false := decide_eq_false (by omega)
                          rw [ej, List.take_length, hyY.out]
                          rw [ej] at hji
                          go_wp2
                          go_roundw
                          case rel => exact ⟨y + 1, by omega, by omega, rfl, HB4.out⟩
                          case measure => simp [intOf]; omega
                    · have hyh' : decide (y < hi) = false := decide_eq_false hyh
                      go_wp2
                      go_roundw
                      case rel => exact ⟨0 + 1, hil, by first | go_num | (rw [Int.natCast_succ]), HB8.out.trans (HB4.out.mono HB8.out.size)⟩
                      case measure => simp [intOf]; omega
                · obtain ⟨ph, hpc, hpl⟩ := HPC.out (by omega)
                  obtain ⟨m, hm⟩ : ∃ m, m = i - 1 := ⟨_, rfl⟩
                  rw [← hm] at hpc
                  have q0 : decide ((0 : Int) < (i : Int)) = true := decide_eq_true (by omega)
                  have q0' : 0 < i := by omega
                  have q1 : wrap64 ((i : Int) - 1) = (m : Int) := by unfold wrap64; omega
                  have q2 : IntKind.i64.wrap ((i : Int) - 1) = (m : Int) := by rw [IntKind.wrap_i64]; omega
                  have q3 : (m : Int) < (M : Int) := by omega
                  have q3' : m < M := by omega
                  have q4 : decide (lo ≤ ph) = false := decide_eq_false (by omega)
                  clear hm
                  go_quiet (fail)
                  go_wp2_with fail
                  have HB8 := hid (below_drewN HB7.out nq)
                  have k1 : (wb.drewN nq).cell? ⟨bx, 1, none⟩ = some (.int .u64 hi) := b1
                  have HLH4 := hid hfr
                  obtain ⟨wl, hwl⟩ : ∃ wl, wl = wb.drewN nq := ⟨_, rfl⟩
                  rw [← hwl] at HB8 k1
                  rw [← hwl]
                  clear hwl b0 b1
                  go_loopw [14] (fun s wr => ∃ y : Int, lo ≤ y ∧ y ≤ hi ∧ s = .int .u64 y ∧ Below wl.heap.size wl wr) (fun s _ => (hi - intOf s).toNat)
                  case atStart => exact ⟨lo, Int.le_refl _, by omega, rfl, Below.refl _ _⟩
                  case round =>
                    obtain ⟨y, hy0, hy1, rfl, hb4⟩ := hrel
                    have HB4 := hid hb4
                    clear hb4
                    have l1 := rcell_kept HB4.out k1
                    by_cases hyh : y < hi
                    · have hyY := hid ((inX_iff Y y).2 (HMM.out y hy0 hyh))
                      have ewy : IntKind.u64.wrap (y + 1) = y + 1 := wrapu _ (by omega) (by omega)
                      go_wp2_with fail
                      obtain ⟨wm, hwm⟩ : ∃ wm, wm = wr := ⟨_, rfl⟩
                      rw [← hwm] at HB4 l1
                      rw [← hwm]
                      clear hwm
                      have HV6 := hid (fun j hj => by
                        obtain ⟨g5, e5, c5⟩ := HV5.out j hj
                        exact (⟨g5, e5, rcell_kept HB4.out (rcell_kept HB8.out c5)⟩ : ∃ g5, a5 = some ⟨g5, 0, none⟩ ∧ wm.cell? ⟨g5, j, none⟩ = some (.int .u64 Y[j])))
                      go_loopw [15, 118] (fun s15 s118 wr => ∃ j : Nat, j ≤ Y.length ∧ s118 = .int .i64 j ∧ s15 = .bool (inX (Y.take j) y) ∧ wr = wm) (fun _ s _ => Y.length - (intOf s).toNat)
                      case atStart => exact ⟨0, Nat.zero_le _, rfl, rfl, rfl⟩
                      case round =>
                        obtain ⟨j, hj, rfl, rfl, rfl⟩ := hrel
                        by_cases hjl : j < Y.length
                        · obtain ⟨g5, rfl, c5⟩ := HV6.out j hjl
                          have HS1 := hid (inX_snoc Y j hjl y)
                          generalize Y[j] = z at *
                          have hji : (j : Int) < (Y.length : Int) := by omega
                          cases hin5 : inX (Y.take j) y
                          · rw [hin5] at HS1
                            go_wp2
                            go_roundw
                            case rel => exact ⟨j + 1, hjl, by first | go_num | (rw [Int.natCast_succ]), by rw [HS1.out]; simp; rfl, by first | rfl | trivial⟩
                            case measure => simp [intOf]; omega
                          · rw [hin5] at HS1
                            go_wp2
                            go_roundw
                            case rel => exact ⟨j + 1, hjl, by first | go_num | (rw [Int.natCast_succ]), by rw [HS1.out]; simp, by first | rfl | trivial⟩
                            case measure => simp [intOf]; omega
                        · have ej : j = Y.length := by omega
                          have hji : decide ((j : Int) < (Y.length : Int)) = false := decide_eq_false (by omega)
                          rw [ej, List.take_length, hyY.out]
                          rw [ej] at hji
                          go_wp2
                          go_roundw
                          case rel => exact ⟨y + 1, by omega, by omega, rfl, HB4.out⟩
                          case measure => simp [intOf]; omega
                    · have hyh' : decide (y < hi) = false := decide_eq_false hyh
                      go_wp2
                      go_roundw
                      case rel => exact ⟨i + 1, hil, by first | go_num | (rw [Int.natCast_succ]), HB8.out.trans (HB4.out.mono HB8.out.size)⟩
                      case measure => simp [intOf]; omega
              · have hil' : decide ((i : Int) < (M : Int)) = false := decide_eq_false (by omega)
                have HTE := hid (HT6.out.kept HBI.out)
                have HZE := hid (Nat.le_trans HZ6.out HBI.out.size)
                have HYl := hid (show Y.length = k + 1 by rw [HYY.out, List.length_append, HXK.out]; rfl)
                go_wp2
                go_roundw
                case rel => exact ⟨k + 1, vs3, A, Y, hlt, HYl.out, by first | go_num | (rw [Int.natCast_succ]), HZE.out, HTE.out⟩
                case measure => simp [intOf]; omega

    · have ek : k = len := by omega
      have hki : decide ((k : Int) < (len : Int)) = false := decide_eq_false (by omega)
      obtain ⟨a4, d4, e4, _⟩ := own_viewU HT.out.came
      subst e4
      have HBF := hid HT.out.bel
      have eXl : ((X.length : Nat) : Int) = (len : Int) := by have := HXK.out; omega
      go_wp2
      go_ret
      exact ⟨rfl, HBF.out⟩
end Go.Proofs.Ytbkfmknjbdonlaa
