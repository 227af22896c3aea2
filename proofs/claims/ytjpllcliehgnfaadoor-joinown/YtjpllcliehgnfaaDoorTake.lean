import Derived.Test.YtjpllcliehgnfaaDoorRegion7
namespace Go.Proofs.YtjpllcliehgnfaaDoor
open Go.RowKit
set_option maxRecDepth 100000

/-- A Hash that has taken the text c. -/
def HashAt (w : World) (p : Nat) (c : List (BitVec 8)) : Prop := ∃ s left, Took c s left ∧ Row w p (hcells s left (c.length % 18446744073709551616)) 94

theorem wpList_copyB {w : World} {ops : Array Oper} {rest : List Oper} {o : Oper} {a : Act} {Q : Exit → Act → World → Prop} (d s : Operand) (hgd : o.guard = none)
    (ho : o.op = .call { callee := .builtin .copy, args := #[d, s], argTypes := #[25, 25] }) {g : Nat} {cur : List Value} {t : TypeId} (R : Row w g cur t) (off dLen dCap : Nat) (hd : a.eval d = .slice (some ⟨g, off, none⟩) dLen dCap)
    (ad : Addr) (sLen sCap : Nat) (hs : a.eval s = .slice (some ad) sLen sCap) (cs : List Value) (hn : cs.length = Nat.min sLen dLen) (hsrc : ∀ j v, cs[j]? = some v → w.cell? (ad.add j) = some v)
    (hfit : off + cs.length ≤ cur.length) (h1 : ∀ v ∈ cs, v.oneCell' = true) (n : Nat) (hcn : cs.length = n)
    (k : ∀ w', Hid (w' = w.setRow g (cur.take off ++ cs ++ cur.drop (off + cs.length)).toArray) → wpList Tryd.prog ops Q rest (a.put o.dst (.int .i64 (n : Int))) w') :
    wpList Tryd.prog ops Q (o :: rest) a w := by
  subst hcn
  have hrun := run_copy_row (P := Tryd.prog) w 25 25 o.type 5 g off dLen dCap ad sLen sCap cur.toArray t cs Tryd.underlying25 (by kernel_rfl) R.at_ hn hsrc (by simpa using hfit) h1
  refine wpList_plain hgd fun K hK => ?_
  unfold Oper.wp
  simp [execOp, ho, resolve, invoke, builtin, hd, hs, hrun, Result.andThen]
  exact hK _ _ (k _ (show w.setRow g _ = w.setRow g _ by simp))

/-- How long a slice is. -/
def slLen : Value → Nat | .slice _ l _ => l | _ => 0
/-- Where Write stands: k bytes are taken. -/
structure Taking (p : Nat) (c bs : List (BitVec 8)) (w : World) (v1 v4 : Value) (wr : World) : Prop where
  ex : ∃ (k m : Nat) (a' : Option Addr) (cap' : Nat) (s' : St) (left' : List (BitVec 8)), k ≤ bs.length ∧ m = (c.length + k) % 64 ∧ v1 = .slice a' (bs.length - k) cap' ∧ v4 = .int .i64 (m : Int) ∧ bs.length - k ≤ cap' ∧ cap' ≤ 9223372036854775807 ∧
      BytesOff p wr a' (bs.drop k) ∧ Took (c ++ bs.take k) s' left' ∧ Row wr p (hcells s' left' ((c.length + bs.length) % 18446744073709551616)) 94 ∧ Only p w wr
theorem BytesOff.rest {p : Nat} {w w' : World} {g o n : Nat} {bs : List (BitVec 8)} {a' : Option Addr} (h : BytesOff p w (some ⟨g, o, none⟩) bs) (hO : Only p w w') (ha : a' = some ⟨g, o + n, none⟩ ∨ bs.length ≤ n) : BytesOff p w' a' (bs.drop n) := by
  intro j hj
  rw [List.length_drop] at hj
  rcases ha with rfl | ha
  · obtain ⟨g2, o2, e2, hg2, c2⟩ := h (n + j) (by omega)
    cases e2
    refine ⟨g, o + n, rfl, hg2, ?_⟩
    rw [List.getElem_drop, Nat.add_assoc]
    exact hO.cell c2 hg2
  · omega
theorem take_more (bs : List (BitVec 8)) (k n : Nat) : bs.take (k + n) = bs.take k ++ (bs.drop k).take n := List.take_add

set_option maxHeartbeats 1500000 in
theorem take_any {w : World} {p : Nat} {c : List (BitVec 8)} (hH : HashAt w p c) (hp : 1 ≤ p) (hK : KTab w) {a : Option Addr} {cap : Nat} {bs : List (BitVec 8)} (hB : BytesOff p w a bs) (hlen : bs.length ≤ cap) (hcap : cap ≤ 9223372036854775807) :
    Calls Tryd.prog 57 #[.pointer (some ⟨p, 0, none⟩), .slice a bs.length cap] w fun e w' => e = .returned (.tuple #[]) ∧ HashAt w' p (c ++ bs) ∧ Only p w w' := by
  obtain ⟨s, left, hT, hR⟩ := hH
  have HK : Hid _ := hK
  have HB : Hid (BytesOff p w a bs) := hB
  have HT : Hid _ := hT
  have HR : Hid _ := hR
  have hn : c.length % 18446744073709551616 < 18446744073709551616 := Nat.mod_lt _ (by decide)
  have hm : (c.length % 18446744073709551616) % 64 = c.length % 64 := by omega
  have hs := hR.cell 73 _ (hcells_size s left _ hT.len)
  have hf := hR.frozen 73
  generalize hN : c.length % 18446744073709551616 = N at *
  have HN : Hid _ := hN
  obtain ⟨m0, hm0⟩ : ∃ m0, m0 = c.length % 64 := ⟨_, rfl⟩
  have HM0 : Hid _ := hm0
  have hmi : (N : Int) % 64 = (m0 : Int) := by omega
  clear hK hB hT hR hN hm hm0
  go_enter Tryd.func57, Tryd.ntmps57
  go_wp2
  go_loopw [1, 4] (fun v1 v4 wr => Taking p c bs w v1 v4 wr) (fun v1 _ _ => slLen v1)
  case atStart =>
    refine ⟨⟨0, m0, a, cap, s, left, Nat.zero_le _, HM0.out, rfl, by go_num, hlen, hcap, ?_, ?_, ?_, ?_⟩⟩
    · exact HB.out.only ((Only.refl p w).setCell _ _)
    · rw [List.take_zero, List.append_nil]; exact HT.out
    · have hN := HN.out
      have e : IntKind.u64.wrap ((N : Int) + (bs.length : Int)) = (((c.length + bs.length) % 18446744073709551616 : Nat) : Int) := by rw [IntKind.wrap_u64]; omega
      have := HR.out.set 73 (.int .u64 (((c.length + bs.length) % 18446744073709551616 : Nat) : Int))
      rw [hcells_setSize _ _ _ _ HT.out.len] at this
      rw [e]
      exact this
    · exact (Only.refl p w).setCell _ _
  case round =>
    obtain ⟨k, m, a', cap', s', left', hk, hmk, rfl, rfl, hlc, hcc, B', T', R', O'⟩ := hrel.ex
    clear hrel hmi
    by_cases hlt : k < bs.length
    · have hm64 : m < 64 := by omega
      obtain ⟨g, o, rfl, hg, c0⟩ := B' 0 (by simp; omega)
      obtain ⟨r, hr, hr0⟩ : ∃ r, r = bs.length - k ∧ 0 < r := ⟨_, rfl, by omega⟩
      rw [← hr] at hlc ⊢
      have HRK : Hid _ := hr
      have HMK : Hid _ := hmk
      have hm1 : (m : Int) ≤ 64 := by omega
      have hm2 : ¬ 64 = m := by omega
      have hm3 : ¬ m = 64 := by omega
      have hV : ((bs.drop k).take (Nat.min r (64 - m))).length = Nat.min r (64 - m) := by
        rw [List.length_take, List.length_drop, ← hr]; exact Nat.min_eq_left (Nat.min_le_left _ _)
      have HSRC : Hid (∀ j v, (bcells ((bs.drop k).take (Nat.min r (64 - m))))[j]? = some v → wr.cell? ((⟨g, o, none⟩ : Addr).add j) = some v) := by
        intro j v hv
        have hj : j < ((bs.drop k).take (Nat.min r (64 - m))).length := by
          have := (List.getElem?_eq_some_iff.1 hv).1
          rwa [bcells_len] at this
        have hj2 : j < (bs.drop k).length := by rw [List.length_take] at hj; omega
        rw [bcells_get hj] at hv
        obtain ⟨g2, o2, e2, _, c2⟩ := B' j hj2
        cases e2
        rw [Addr.add_mid, c2]
        rw [← hv]
        simp
      obtain ⟨n, hn⟩ : ∃ n, n = Nat.min r (64 - m) := ⟨_, rfl⟩
      have hn1 : n ≤ r := by rw [hn]; exact Nat.min_le_left _ _
      have hn2 : n ≤ 64 - m := by rw [hn]; exact Nat.min_le_right _ _
      have hn3 : n = r ∨ n = 64 - m := by
        rcases Nat.le_total r (64 - m) with h | h
        · left; rw [hn]; exact Nat.min_eq_left h
        · right; rw [hn]; exact Nat.min_eq_right h
      have HVM : Hid (bs.drop k = (bs.drop k).take n ++ bs.drop (k + n)) := by
        show bs.drop k = _
        rw [← List.drop_drop, List.take_append_drop]
      rw [← hn] at hV HSRC
      generalize hVe : (bs.drop k).take n = V at *
      have HVE : Hid _ := hVe
      have HV : Hid _ := hV
      have HNN : Hid _ := hn
      have hn4 : (n : Int) ≤ (r : Int) := by omega
      have hn5 : (n : Int) ≤ (cap' : Int) := by omega
      have hmi : (m : Int) < 64 := by omega
      have hri : (0 : Int) < (r : Int) := by omega
      have HR' : Hid _ := R'
      have HT' : Hid _ := T'
      have HB' : Hid (BytesOff p wr (some ⟨g, o, none⟩) (bs.drop k)) := B'
      have HO' : Hid _ := O'
      have Hn3 : Hid _ := hn3
      clear c0 hr hmk hV hVe hn hn3 R' T' B' O' HR HT HB hs
      have FIN : Hid (∀ (wc : World) (s'' : St) (left'' : List (BitVec 8)) (a'' : Option Addr) (m' cap'' : Nat), cap'' = cap' - n → m' = (m + n) % 64 → (a'' = some ⟨g, o + n, none⟩ ∨ r ≤ n) → Only p wr wc → Took (c ++ bs.take k ++ V) s'' left'' → Row wc p (hcells s'' left'' ((c.length + bs.length) % 18446744073709551616)) 94 →
          Taking p c bs w (.slice a'' (r - n) cap'') (.int .i64 (m' : Int)) wc) := by
        intro wc s'' left'' a'' m' cap'' hcap'' hm' ha hO hTk hRw
        have hrk := HRK.out
        have hmk := HMK.out
        refine ⟨k + n, m', a'', cap'', s'', left'', by omega, by omega, by rw [show bs.length - (k + n) = r - n by omega], rfl, by omega, by omega, ?_, ?_, hRw, HO'.out.trans hO⟩
        · rw [← List.drop_drop]
          exact HB'.out.rest hO (by rcases ha with h | h
                                    · exact .inl h
                                    · right; rw [List.length_drop]; omega)
        · rw [take_more, HVE.out, ← List.append_assoc]; exact hTk
      have HCL : Hid ((c ++ bs.take k).length % 64 = m) := by
        show (c ++ bs.take k).length % 64 = m
        have := HMK.out
        rw [List.length_append, List.length_take, Nat.min_eq_left (by omega)]; omega
      have ROW : Hid (∀ wc, wc = wr.setRow p ((hcells s' left' ((c.length + bs.length) % 18446744073709551616)).take (9 + m) ++ bcells V ++ (hcells s' left' ((c.length + bs.length) % 18446744073709551616)).drop (9 + m + (bcells V).length)).toArray →
          Row wc p (hcells s' (laidIn left' m V) ((c.length + bs.length) % 18446744073709551616)) 94 ∧ Only p wr wc) := by
        intro wc hwc
        have hr := HR'.out.row ((hcells s' left' ((c.length + bs.length) % 18446744073709551616)).take (9 + m) ++ bcells V ++ (hcells s' left' ((c.length + bs.length) % 18446744073709551616)).drop (9 + m + (bcells V).length))
        rw [← hwc] at hr
        rw [bcells_len, hcells_laid _ _ _ _ _ HT'.out.len (by rw [HV.out]; omega)] at hr
        exact ⟨hr, by rw [hwc]; exact (Only.refl p wr).setRow _⟩
      by_cases h64 : m + n = 64
      · have e64 : (m : Int) + (n : Int) = 64 := by omega
        have LL : Hid ((laidIn left' m V).length = 64) := by
          show (laidIn left' m V).length = 64
          rw [laidIn_len _ _ _ (by rw [HV.out, HT'.out.len]; omega), HT'.out.len]
        have LEN : Hid (left'.length = 64) := HT'.out.len
        have i34 : (Tryd.prog.info? 90).map (·.size) = some 8 := by kernel_rfl
        have I34 : Hid _ := i34
        have i36 : (Tryd.prog.info? 92).map (·.size) = some 64 := by kernel_rfl
        have I36 : Hid _ := i36
        clear i34 i36
        go_wp2_with (show wpList _ _ _ (Oper.mk (some 31) (.call { callee := .builtin .copy, args := #[.tmp 29, .tmp 30], argTypes := #[25, 25] }) _ _ _ _ :: _) _ _; refine wpList_copyB (.tmp 29) (.tmp 30) rfl rfl HR'.out (9 + m) (64 - m) (64 - m) rfl ⟨g, o, none⟩ r cap' rfl (bcells V) (by rw [bcells_len, HV.out]; exact HNN.out) HSRC.out (by rw [bcells_len, HV.out, hcells_len _ _ _ HT'.out.len]; omega) (bcells_one _) n (by rw [bcells_len, HV.out]) ?_; intro wc HC)
        all_goals
          have hrw := ROW.out wc HC.out
          have HRC : Hid _ := hrw.1
          have HOC : Hid _ := hrw.2
          have HTK : Hid (Took (c ++ bs.take k ++ V) (mix s' (laidIn left' m V)) (laidIn left' m V)) := by
            have hTk := HT'.out.full V (by rw [HCL.out, HV.out]; omega)
            rw [HCL.out] at hTk
            exact hTk
          have HKC : Hid (KTab wc) := KTab.only (KTab.only HK.out HO'.out hp) HOC.out hp
          have hn3 := Hn3.out
          clear hrw HC ROW HR' HSRC HT' HCL Hn3
          generalize laidIn left' m V = L at *
        all_goals
          refine region7 (Q := _) _ (p := p) (s' := s') (L := L) (M := (c.length + bs.length) % 18446744073709551616) rfl rfl (fun _ _ _ _ _ h => h) HRC.out LL.out HKC.out ?_
          intro w8 R8 O8
          have HR8 : Hid _ := R8
          have HO8 : Hid _ := HOC.out.trans O8
          clear R8 O8 HRC HOC HKC
          simp only [fin7, Act.put, List.setIfInBounds_toArray, List.set_cons_zero, List.set_cons_succ]
          go_wp2
          go_roundw
        case rel =>
          exact FIN.out w8 (mix s' L) L _ 0 0 (by omega) (by omega) (.inr (by omega)) HO8.out HTK.out HR8.out
        case measure => simp only [slLen]; omega
        case rel =>
          exact FIN.out w8 (mix s' L) L _ 0 _ rfl (by omega) (.inl rfl) HO8.out HTK.out HR8.out
        case measure => simp only [slLen]; omega
      · have e64 : ((m : Int) + (n : Int) == 64) = false := by
          rw [beq_eq_false_iff_ne]; omega
        have e64' : ¬ ((m : Int) + (n : Int) = 64) := by omega
        go_wp2_with (show wpList _ _ _ (Oper.mk (some 31) (.call { callee := .builtin .copy, args := #[.tmp 29, .tmp 30], argTypes := #[25, 25] }) _ _ _ _ :: _) _ _; refine wpList_copyB (.tmp 29) (.tmp 30) rfl rfl HR'.out (9 + m) (64 - m) (64 - m) rfl ⟨g, o, none⟩ r cap' rfl (bcells V) (by rw [bcells_len, HV.out]; exact HNN.out) HSRC.out (by rw [bcells_len, HV.out, hcells_len _ _ _ HT'.out.len]; omega) (bcells_one _) n (by rw [bcells_len, HV.out]) ?_; intro wc HC)
        all_goals
          have hTk := HT'.out.less V (by rw [HCL.out, HV.out]; omega)
          rw [HCL.out] at hTk
          have hrw := ROW.out wc HC.out
          have hcast : (m : Int) + (n : Int) = ((m + n : Nat) : Int) := by omega
          have hn3 := Hn3.out
          go_roundw
        case rel => rw [hcast]; exact FIN.out wc s' (laidIn left' m V) _ (m + n) _ (by omega) (by omega) (.inr (by omega)) hrw.2 hTk hrw.1
        case measure => simp only [slLen]; omega
    · have ek : k = bs.length := by omega
      subst ek
      have HR' : Hid _ := R'
      have HT' : Hid _ := T'
      have HO' : Hid _ := O'
      clear R' T' B' O' HR HT HB hs
      rw [Nat.sub_self]
      go_wp2
      go_end0
      have ht := HT'.out
      rw [List.take_length] at ht
      exact ⟨rfl, ⟨s', left', ht, by rw [List.length_append]; exact HR'.out⟩, HO'.out⟩
end Go.Proofs.YtjpllcliehgnfaaDoor
