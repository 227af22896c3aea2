import Derived.Test.YtaklbofbhanjgaaDoorRegion7
namespace Go.Proofs.YtaklbofbhanjgaaDoor
open Go.RowKit
set_option maxRecDepth 100000

/-- A Hash that has taken the text c. -/
def HashAt (w : World) (p : Nat) (c : List (BitVec 8)) : Prop := ∃ s left, Took c s left ∧ Row w p (hcells s left (c.length % 18446744073709551616)) 108

theorem wpList_copyB {w : World} {ops : Array Oper} {rest : List Oper} {o : Oper} {a : Act} {Q : Exit → Act → World → Prop} (d s : Operand) (hgd : o.guard = none)
    (ho : o.op = .call { callee := .builtin .copy, args := #[d, s], argTypes := #[22, 22] }) {g : Nat} {cur : List Value} {t : TypeId} (R : Row w g cur t) (off dLen dCap : Nat) (hd : a.eval d = .slice (some ⟨g, off, none⟩) dLen dCap)
    (ad : Addr) (sLen sCap : Nat) (hs : a.eval s = .slice (some ad) sLen sCap) (cs : List Value) (hn : cs.length = Nat.min sLen dLen) (hsrc : ∀ j v, cs[j]? = some v → w.cell? (ad.add j) = some v)
    (hfit : off + cs.length ≤ cur.length) (h1 : ∀ v ∈ cs, v.oneCell' = true) (n : Nat) (hcn : cs.length = n)
    (k : ∀ w', Hid (w' = w.setRow g (cur.take off ++ cs ++ cur.drop (off + cs.length)).toArray) → wpList Tryd.prog ops Q rest (a.put o.dst (.int .i64 (n : Int))) w') :
    wpList Tryd.prog ops Q (o :: rest) a w := by
  subst hcn
  have hrun := run_copy_row (P := Tryd.prog) w 22 22 o.type 5 g off dLen dCap ad sLen sCap cur.toArray t cs Tryd.underlying22 (by kernel_rfl) R.at_ hn hsrc (by simpa using hfit) h1
  refine wpList_plain hgd fun K hK => ?_
  unfold Oper.wp
  simp [execOp, ho, resolve, invoke, builtin, hd, hs, hrun, Result.andThen]
  exact hK _ _ (k _ (show w.setRow g _ = w.setRow g _ by simp))

/-- How long a slice is. -/
def slLen : Value → Nat | .slice _ l _ => l | _ => 0
/-- Where Write stands: k bytes are taken. -/
structure Taking (p : Nat) (c bs : List (BitVec 8)) (w : World) (v1 v4 : Value) (wr : World) : Prop where
  ex : ∃ (k m : Nat) (a' : Option Addr) (cap' : Nat) (s' : St) (left' : List (BitVec 8)), k ≤ bs.length ∧ m = (c.length + k) % 64 ∧ v1 = .slice a' (bs.length - k) cap' ∧ v4 = .int .i64 (m : Int) ∧ bs.length - k ≤ cap' ∧ cap' ≤ 9223372036854775807 ∧
      BytesOff p wr a' (bs.drop k) ∧ Took (c ++ bs.take k) s' left' ∧ Row wr p (hcells s' left' ((c.length + bs.length) % 18446744073709551616)) 108 ∧ Only p w wr
theorem BytesOff.rest {p : Nat} {w w' : World} {g o n : Nat} {bs : List (BitVec 8)} {a' : Option Addr} (h : BytesOff p w (some ⟨g, o, none⟩) bs) (hO : Only p w w') (ha : a' = some ⟨g, o + n, none⟩ ∨ bs.length ≤ n) : BytesOff p w' a' (bs.drop n) := by
  intro j hj
  rw [List.length_drop] at hj
  rcases ha with rfl | ha
  · obtain ⟨g2, o2, e2, hg2, c2⟩ := h (n + j) (by omega)
    cases e2
    refine ⟨g, o + n, rfl, hg2, ?_⟩
    rw [List.getElem_drop, Nat.add_assoc]
    exact hO.cell c2 hg2
  · omega
theorem take_more (bs : List (BitVec 8)) (k n : Nat) : bs.take (k + n) = bs.take k ++ (bs.drop k).take n := List.take_add

set_option maxHeartbeats 1500000 in
theorem take_any {w : World} {p : Nat} {c : List (BitVec 8)} (hH : HashAt w p c) (hp : 2 ≤ p) (hK : KTab w) {a : Option Addr} {cap : Nat} {bs : List (BitVec 8)} (hB : BytesOff p w a bs) (hlen : bs.length ≤ cap) (hcap : cap ≤ 9223372036854775807) :
    Calls Tryd.prog 68 #[.pointer (some ⟨p, 0, none⟩), .slice a bs.length cap] w fun e w' => e = .returned (.tuple #[]) ∧ HashAt w' p (c ++ bs) ∧ Only p w w' := by
  obtain ⟨s, left, hT, hR⟩ := hH
  have HK : Hid _ := hK
  have HB : Hid (BytesOff p w a bs) := hB
  have HT : Hid _ := hT
  have HR : Hid _ := hR
  have hn : c.length % 18446744073709551616 < 18446744073709551616 := Nat.mod_lt _ (by decide)
  have hm : (c.length % 18446744073709551616) % 64 = c.length % 64 := by omega
  have hs := hR.cell 73 _ (hcells_size s left _ hT.len)
  have hf := hR.frozen 73
  generalize hN : c.length % 18446744073709551616 = N at *
  have HN : Hid _ := hN
  obtain ⟨m0, hm0⟩ : ∃ m0, m0 = c.length % 64 := ⟨_, rfl⟩
  have HM0 : Hid _ := hm0
  have hmi : (N : Int) % 64 = (m0 : Int) := by omega
  clear hK hB hT hR hN hm hm0
  go_enter Tryd.func68, Tryd.ntmps68
  go_wp2
  go_loopw [1, 4] (fun v1 v4 wr => Taking p c bs w v1 v4 wr) (fun v1 _ _ => slLen v1)
  case atStart =>
    refine ⟨⟨0, m0, a, cap, s, left, Nat.zero_le _, HM0.out, rfl, by go_num, hlen, hcap, ?_, ?_, ?_, ?_⟩⟩
    · exact HB.out.only ((Only.refl p w).setCell _ _)
    · rw [List.take_zero, List.append_nil]; exact HT.out
    · have hN := HN.out
      have e : IntKind.u64.wrap ((N : Int) + (bs.length : Int)) = (((c.length + bs.length) % 18446744073709551616 : Nat) : Int) := by rw [IntKind.wrap_u64]; omega
      have := HR.out.set 73 (.int .u64 (((c.length + bs.length) % 18446744073709551616 : Nat) : Int))
      rw [hcells_setSize _ _ _ _ HT.out.len] at this
      rw [e]
      exact this
    · exact (Only.refl p w).setCell _ _
  case round =>
    obtain ⟨k, m, a', cap', s', left', hk, hmk, rfl, rfl, hlc, hcc, B', T', R', O'⟩ := hrel.ex
    clear hrel hmi
    by_cases hlt : k < bs.length
    · have hm64 : m < 64 := by omega
      obtain ⟨g, o, rfl, hg, c0⟩ := B' 0 (by simp; omega)
      obtain ⟨r, hr, hr0⟩ : ∃ r, r = bs.length - k ∧ 0 < r := ⟨_, rfl, by omega⟩
      rw [← hr] at hlc ⊢
      have HRK : Hid _ := hr
      have HMK : Hid _ := hmk
      have hm1 : (m : Int) ≤ 64 := by omega
      have hm2 : ¬ 64 = m := by omega
      have hm3 : ¬ m = 64 := by omega
      have hV : ((bs.drop k).take (Nat.min r (64 - m))).length = Nat.min r (64 - m) := by
        rw [List.length_take, List.length_drop, ← hr]; exact Nat.min_eq_left (Nat.min_le_left _ _)
      have HSRC : Hid (∀ j v, (bcells ((bs.drop k).take (Nat.min r (64 - m))))[j]? = some v → wr.cell? ((⟨g, o, none⟩ : Addr).add j) = some v) := by
        intro j v hv
        have hj : j < ((bs.drop k).take (Nat.min r (64 - m))).length := by
          have := (List.getElem?_eq_some_iff.1 hv).1
          rwa [bcells_len] at this
        have hj2 : j < (bs.drop k).length := by rw [List.length_take] at hj; omega
        rw [bcells_get hj] at hv
        obtain ⟨g2, o2, e2, _, c2⟩ := B' j hj2
        cases e2
        rw [Addr.add_mid, c2]
        rw [← hv]
        simp
      obtain ⟨n, hn⟩ : ∃ n, n = Nat.min r (64 - m) := ⟨_, rfl⟩
      have hn1 : n ≤ r := by rw [hn]; exact Nat.min_le_left _ _
      have hn2 : n ≤ 64 - m := by rw [hn]; exact Nat.min_le_right _ _
      have hn3 : n = r ∨ n = 64 - m := by
        rcases Nat.le_total r (64 - m) with h | h
        · left; rw [hn]; exact Nat.min_eq_left h
        · right; rw [hn]; exact Nat.min_eq_right h
      have HVM : Hid (bs.drop k = (bs.drop k).take n ++ bs.drop (k + n)) := by
        show bs.drop k = _
        rw [← List.drop_drop, List.take_append_drop]
      rw [← hn] at hV HSRC
      generalize hVe : (bs.drop k).take n = V at *
      have HVE : Hid _ := hVe
      have HV : Hid _ := hV
      have HNN : Hid _ := hn
      have hn4 : (n : Int) ≤ (r : Int) := by omega
      have hn5 : (n : Int) ≤ (cap' : Int) := by omega
      have hmi : (m : Int) < 64 := by omega
      have hri : (0 : Int) < (r : Int) := by omega
      have HR' : Hid _ := R'
      have HT' : Hid _ := T'
      have HB' : Hid (BytesOff p wr (some ⟨g, o, none⟩) (bs.drop k)) := B'
      have HO' : Hid _ := O'
      have Hn3 : Hid _ := hn3
      clear c0 hr hmk hV hVe hn hn3 R' T' B' O' HR HT HB hs
      have FIN : Hid (∀ (wc : World) (s'' : St) (left'' : List (BitVec 8)) (a'' : Option Addr) (m' cap'' : Nat), cap'' = cap' - n → m' = (m + n) % 64 → (a'' = some ⟨g, o + n, none⟩ ∨ r ≤ n) → Only p wr wc → Took (c ++ bs.take k ++ V) s'' left'' → Row wc p (hcells s'' left'' ((c.length + bs.length) % 18446744073709551616)) 108 →
          Taking p c bs w (.slice a'' (r - n) cap'') (.int .i64 (m' : Int)) wc) := by
        intro wc s'' left'' a'' m' cap'' hcap'' hm' ha hO hTk hRw
        have hrk := HRK.out
        have hmk := HMK.out
        refine ⟨k + n, m', a'', cap'', s'', left'', by omega, by omega, by rw [show bs.length - (k + n) = r - n by omega], rfl, by omega, by omega, ?_, ?_, hRw, HO'.out.trans hO⟩
        · rw [← List.drop_drop]
          exact HB'.out.rest hO (by rcases ha with h | h
                                    · exact .inl h
                                    · right; rw [List.length_drop]; omega)
        · rw [take_more, HVE.out, ← List.append_assoc]; exact hTk
      have HCL : Hid ((c ++ bs.take k).length % 64 = m) := by
        show (c ++ bs.take k).length % 64 = m
        have := HMK.out
        rw [List.length_append, List.length_take, Nat.min_eq_left (by omega)]; omega
      have ROW : Hid (∀ wc, wc = wr.setRow p ((hcells s' left' ((c.length + bs.length) % 18446744073709551616)).take (9 + m) ++ bcells V ++ (hcells s' left' ((c.length + bs.length) % 18446744073709551616)).drop (9 + m + (bcells V).length)).toArray →
          Row wc p (hcells s' (laidIn left' m V) ((c.length + bs.length) % 18446744073709551616)) 108 ∧ Only p wr wc) := by
        intro wc hwc
        have hr := HR'.out.row ((hcells s' left' ((c.length + bs.length) % 18446744073709551616)).take (9 + m) ++ bcells V ++ (hcells s' left' ((c.length + bs.length) % 18446744073709551616)).drop (9 + m + (bcells V).length))
        rw [← hwc] at hr
        rw [bcells_len, hcells_laid _ _ _ _ _ HT'.out.len (by rw [HV.out]; omega)] at hr
        exact ⟨hr, by rw [hwc]; exact (Only.refl p wr).setRow _⟩
      by_cases h64 : m + n = 64
      · have e64 : (m : Int) + (n : Int) = 64 := by omega
        have LL : Hid ((laidIn left' m V).length = 64) := by
          show (laidIn left' m V).length = 64
          rw [laidIn_len _ _ _ (by rw [HV.out, HT'.out.len]; omega), HT'.out.len]
        have LEN : Hid (left'.length = 64) := HT'.out.len
        have i34 : (Tryd.prog.info? 104).map (·.size) = some 8 := by kernel_rfl
        have I34 : Hid _ := i34
        have i36 : (Tryd.prog.info? 106).map (·.size) = some 64 := by kernel_rfl
        have I36 : Hid _ := i36
        clear i34 i36
        go_wp2_with (show wpList _ _ _ (Oper.mk (some 31) (.call { callee := .builtin .copy, args := #[.tmp 29, .tmp 30], argTypes := #[22, 22] }) _ _ _ _ :: _) _ _; refine wpList_copyB (.tmp 29) (.tmp 30) rfl rfl HR'.out (9 + m) (64 - m) (64 - m) rfl ⟨g, o, none⟩ r cap' rfl (bcells V) (by rw [bcells_len, HV.out]; exact HNN.out) HSRC.out (by rw [bcells_len, HV.out, hcells_len _ _ _ HT'.out.len]; omega) (bcells_one _) n (by rw [bcells_len, HV.out]) ?_; intro wc HC)
        all_goals
          have hrw := ROW.out wc HC.out
          have HRC : Hid _ := hrw.1
          have HOC : Hid _ := hrw.2
          have HTK : Hid (Took (c ++ bs.take k ++ V) (mix s' (laidIn left' m V)) (laidIn left' m V)) := by
            have hTk := HT'.out.full V (by rw [HCL.out, HV.out]; omega)
            rw [HCL.out] at hTk
            exact hTk
          have HKC : Hid (KTab wc) := KTab.only (KTab.only HK.out HO'.out hp) HOC.out hp
          have hn3 := Hn3.out
          clear hrw HC ROW HR' HSRC HT' HCL Hn3
          generalize laidIn left' m V = L at *
        all_goals
          refine region7 (Q := _) _ (p := p) (s' := s') (L := L) (M := (c.length + bs.length) % 18446744073709551616) rfl rfl (fun _ _ _ _ _ h => h) HRC.out LL.out HKC.out ?_
          intro w8 R8 O8
          have HR8 : Hid _ := R8
          have HO8 : Hid _ := HOC.out.trans O8
          clear R8 O8 HRC HOC HKC
          simp only [fin7, Act.put, List.setIfInBounds_toArray, List.set_cons_zero, List.set_cons_succ]
          go_wp2
          go_roundw
        case rel =>
          exact FIN.out w8 (mix s' L) L _ 0 0 (by omega) (by omega) (.inr (by omega)) HO8.out HTK.out HR8.out
        case measure => simp only [slLen]; omega
        case rel =>
          exact FIN.out w8 (mix s' L) L _ 0 _ rfl (by omega) (.inl rfl) HO8.out HTK.out HR8.out
        case measure => simp only [slLen]; omega
      · have e64 : ((m : Int) + (n : Int) == 64) = false := by
          rw [beq_eq_false_iff_ne]; omega
        have e64' : ¬ ((m : Int) + (n : Int) = 64) := by omega
        go_wp2_with (show wpList _ _ _ (Oper.mk (some 31) (.call { callee := .builtin .copy, args := #[.tmp 29, .tmp 30], argTypes := #[22, 22] }) _ _ _ _ :: _) _ _; refine wpList_copyB (.tmp 29) (.tmp 30) rfl rfl HR'.out (9 + m) (64 - m) (64 - m) rfl ⟨g, o, none⟩ r cap' rfl (bcells V) (by rw [bcells_len, HV.out]; exact HNN.out) HSRC.out (by rw [bcells_len, HV.out, hcells_len _ _ _ HT'.out.len]; omega) (bcells_one _) n (by rw [bcells_len, HV.out]) ?_; intro wc HC)
        all_goals
          have hTk := HT'.out.less V (by rw [HCL.out, HV.out]; omega)
          rw [HCL.out] at hTk
          have hrw := ROW.out wc HC.out
          have hcast : (m : Int) + (n : Int) = ((m + n : Nat) : Int) := by omega
          have hn3 := Hn3.out
          go_roundw
        case rel => rw [hcast]; exact FIN.out wc s' (laidIn left' m V) _ (m + n) _ (by omega) (by omega) (.inr (by omega)) hrw.2 hTk hrw.1
        case measure => simp only [slLen]; omega
    · have ek : k = bs.length := by omega
      subst ek
      have HR' : Hid _ := R'
      have HT' : Hid _ := T'
      have HO' : Hid _ := O'
      clear R' T' B' O' HR HT HB hs
      rw [Nat.sub_self]
      go_wp2
      go_end0
      have ht := HT'.out
      rw [List.take_length] at ht
      exact ⟨rfl, ⟨s', left', ht, by rw [List.length_append]; exact HR'.out⟩, HO'.out⟩
end Go.Proofs.YtaklbofbhanjgaaDoor
namespace Go.Proofs.YtaklbofbhanjgaaDoor
open Go.RowKit
set_option maxRecDepth 100000

set_option maxHeartbeats 400000 in
theorem firstState_any (w : World) : Calls Tryd.prog 86 #[] w fun e w' => e = .returned (.agg (wcells st0.l).toArray) ∧ Below w.heap.size w w' := by
  go_enter Tryd.func86, Tryd.ntmps86
  go_wp2
  refine bodyPost_ret (v := .agg (wcells st0.l).toArray) ((Row.new' w _ (wcells st0.l) 104 _ rfl rfl).result Tryd.results86 _ rfl _ Tryd.underlying104 rfl (by kernel_rfl)) rfl ⟨rfl, (Below.refl _ _).alloc (Nat.le_refl _) _⟩

def z64 : List (BitVec 8) := List.replicate 64 0#8
theorem built39 : Tryd.prog.built 108 [(0, .bool true), (1, .agg (wcells st0.l).toArray)] = some (hcells st0 z64 0).toArray := by kernel_rfl
/-- A plain Hash's cells. -/
def hz : List Value := .bool false :: (wcells (List.replicate 8 0#32) ++ (bcells z64 ++ [.int .u64 0]))
theorem hz_len : hz.length = 74 := by kernel_rfl
theorem zero39 : (Tryd.prog.info? 108).map (fun i => (i.zero, i.size)) = some (some (.agg hz.toArray), 74) := by kernel_rfl
theorem z39 (w : World) : (zeroValue 108).run Tryd.prog w = .ok (.agg hz.toArray) w := (zero_of_info zero39).1 w
theorem i39 : (Tryd.prog.info? 108).map (·.size) = some 74 := (zero_of_info zero39).2
theorem wpBuild39 {ops : Array Oper} {rest : List Oper} {o : Oper} {a : Act} {w : World} {Q : Exit → Act → World → Prop} (x : Operand) (hgd : o.guard = none) (ho : o.op = .build 108 #[(0, .const (.bool true)), (1, x)]) (hx : a.eval x = .agg (wcells st0.l).toArray)
    (k : wpList Tryd.prog ops Q rest (a.put o.dst (.agg (hcells st0 z64 0).toArray)) w) : wpList Tryd.prog ops Q (o :: rest) a w := by
  have e : (#[(0, Operand.const (.bool true)), (1, x)].map fun (i, x) => (i, a.eval x)).toList = [(0, .bool true), (1, .agg (wcells st0.l).toArray)] := by
    simp [hx]; rfl
  refine wpList_build hgd 108 _ ho (by rw [e, built39]; rfl) ?_
  rw [e, built39]
  exact k

theorem hcells_one (s : St) (l : List (BitVec 8)) (n : Nat) : ∀ v ∈ hcells s l n, v.oneCell' = true := by
  intro v hv
  simp only [hcells, List.mem_cons, List.mem_append, List.not_mem_nil, or_false] at hv
  rcases hv with rfl | hv | hv | rfl
  · rfl
  · exact wcells_one _ v hv
  · exact bcells_one _ v hv
  · rfl

set_option maxHeartbeats 400000 in
theorem fresh_any (w : World) : Calls Tryd.prog 67 #[] w fun e w' => e = .returned (.agg (hcells st0 z64 0).toArray) ∧ Below w.heap.size w w' := by
  have hz39 := z39
  go_enter Tryd.func67, Tryd.ntmps67
  go_wp2_with (first
    | (go_at_call 86; refine (firstState_any _).mono ?_; rintro e w1 ⟨rfl, hb1⟩; have HB1 : Hid _ := hb1; clear hb1)
    | (show wpList _ _ _ (Oper.mk (some 2) (.build 108 _) _ _ _ _ :: _) _ _; refine wpBuild39 (.tmp 1) rfl rfl rfl ?_)
    | (show wpList _ _ _ (Oper.mk none (.store 108 (.tmp 0) (.tmp 2)) _ _ _ _ :: _) _ _; refine ((Row.new w hz 108).kept HB1.out (by simp)).wpStore' 108 (.tmp 0) (.tmp 2) (hcells st0 z64 0) rfl rfl rfl rfl (by rw [hz_len, hcells_len _ _ _ (by rfl)]) (hcells_one _ _ _) (by rw [hcells_len _ _ _ (by rfl)]; exact i39) ?_; intro wx HX))
  have R : Row wx w.heap.size (hcells st0 z64 0) 108 := by rw [HX.out]; exact ((Row.new w hz 108).kept HB1.out (by simp)).row _
  refine bodyPost_ret (v := .agg (hcells st0 z64 0).toArray) (R.result Tryd.results67 _ rfl _ Tryd.underlying108 rfl (by rw [hcells_len _ _ _ (by rfl)]; exact i39)) rfl ⟨rfl, ?_⟩
  rw [HX.out]
  exact Go.below_setRow (((Below.refl _ _).alloc (Nat.le_refl _) _).trans (HB1.out.mono (by simp))) (Nat.le_refl _) _

end Go.Proofs.YtaklbofbhanjgaaDoor
namespace Go.Proofs.YtaklbofbhanjgaaDoor
open Go.RowKit
set_option maxRecDepth 100000

theorem wp_world {code : Code} {Q : Exit → Act → World → Prop} {a : Act} {w : World} (h : ∀ w0, Hid (w0 = w) → code.wp Tryd.prog Q a w0) : code.wp Tryd.prog Q a w := h w rfl
/-- A Hash that neither New nor Fork gave. -/
def NoHash (w : World) (v : Value) : Prop := v = .pointer none ∨ ∃ p, v = .pointer (some ⟨p, 0, none⟩) ∧ Row w p hz 108

theorem hash_made {w : World} {p : Nat} {c : List (BitVec 8)} (h : HashAt w p c) : w.cell? ⟨p, 0, none⟩ = some (.bool true) := by
  obtain ⟨s, l, _, R⟩ := h
  exact R.cell 0 _ rfl
def z32 : List (BitVec 8) := List.replicate 32 0#8
theorem zero44 : (Tryd.prog.info? 25).map (fun i => (i.zero, i.size)) = some (some (.agg (bcells z32).toArray), 32) := by kernel_rfl
theorem z44 (w : World) : (zeroValue 25).run Tryd.prog w = .ok (.agg (bcells z32).toArray) w := (zero_of_info zero44).1 w
theorem i44 : (Tryd.prog.info? 25).map (·.size) = some 32 := (zero_of_info zero44).2
theorem NoHash.kept {w w' : World} {v : Value} (h : NoHash w v) (hb : Below w.heap.size w w') : NoHash w' v := by
  rcases h with h | ⟨p, h, R⟩
  · exact .inl h
  · exact .inr ⟨p, h, R.kept hb R.lt⟩
end Go.Proofs.YtaklbofbhanjgaaDoor
namespace Go.Proofs.YtaklbofbhanjgaaDoor
open Go.RowKit
set_option maxRecDepth 100000

theorem BytesAt.off {w : World} {a : Option Addr} {bs : List (BitVec 8)} (h : BytesAt w a bs) {p : Nat} (hp : w.heap.size ≤ p) : BytesOff p w a bs := fun k hk => by
  obtain ⟨g, o, e, c⟩ := h k hk
  have := World.block_lt_of_cell? w _ c
  exact ⟨g, o, e, by simp only at this; omega, c⟩
theorem BytesOff.kept {p : Nat} {w w' : World} {a : Option Addr} {bs : List (BitVec 8)} (h : BytesOff p w a bs) (hb : Below w.heap.size w w') : BytesOff p w' a bs := fun k hk => by
  obtain ⟨g, o, e, hg, c⟩ := h k hk
  exact ⟨g, o, e, hg, cell_kept hb c⟩
theorem NoHash.only {w w' : World} {v : Value} {p : Nat} (h : NoHash w v) (ho : Only p w w') (hp : ∀ q, v = .pointer (some ⟨q, 0, none⟩) → q ≠ p) : NoHash w' v := by
  rcases h with h | ⟨q, h, R⟩
  · exact .inl h
  · exact .inr ⟨q, h, ho.row R (hp q h)⟩
theorem built39z : Tryd.prog.built 108 [] = some hz.toArray := by kernel_rfl
theorem wpBuild39z {ops : Array Oper} {rest : List Oper} {o : Oper} {a : Act} {w : World} {Q : Exit → Act → World → Prop} (hgd : o.guard = none) (ho : o.op = .build 108 #[])
    (k : wpList Tryd.prog ops Q rest (a.put o.dst (.agg hz.toArray)) w) : wpList Tryd.prog ops Q (o :: rest) a w := by
  refine wpList_build hgd 108 _ ho (by simp [built39z]) ?_
  simpa [built39z] using k

theorem eq44 (w : World) : (Op.equalIn 10000 25 (.agg (bcells z32).toArray) (.agg #[.int .u8 0, .int .u8 0, .int .u8 0, .int .u8 0, .int .u8 0, .int .u8 0, .int .u8 0, .int .u8 0, .int .u8 0, .int .u8 0, .int .u8 0, .int .u8 0, .int .u8 0, .int .u8 0, .int .u8 0, .int .u8 0, .int .u8 0, .int .u8 0, .int .u8 0, .int .u8 0, .int .u8 0, .int .u8 0, .int .u8 0, .int .u8 0, .int .u8 0, .int .u8 0, .int .u8 0, .int .u8 0, .int .u8 0, .int .u8 0, .int .u8 0, .int .u8 0])).run Tryd.prog w = .ok true w := by kernel_rfl
end Go.Proofs.YtaklbofbhanjgaaDoor
namespace Go.Proofs.YtaklbofbhanjgaaDoor
open Go.RowKit
set_option maxRecDepth 100000

/-- The j-th of a number's eight bytes, the highest first. -/
def eb (n j : Nat) : BitVec 8 := BitVec.ofNat 8 (n / 2 ^ (56 - 8 * j))
def eightL (n : Nat) : List (BitVec 8) := (List.range 8).map (eb n)
def e8 (n k : Nat) : List (BitVec 8) := (List.range k).map (eb n) ++ List.replicate (8 - k) 0#8
theorem e8_len (n k : Nat) (h : k ≤ 8) : (e8 n k).length = 8 := by simp [e8]; omega
theorem e8_set (n k : Nat) (h : k < 8) : (e8 n k).set k (eb n k) = e8 n (k + 1) := by
  unfold e8
  rw [List.set_append_right _ _ (by simp), List.length_map, List.length_range, Nat.sub_self]
  obtain ⟨m, hm⟩ : ∃ m, 8 - k = m + 1 := ⟨7 - k, by omega⟩
  rw [hm, show 8 - (k + 1) = m by omega, List.replicate_succ, List.set_cons_zero, List.range_succ, List.map_append]
  simp

set_option maxHeartbeats 600000 in
theorem eight_any (w : World) (N : Nat) (hN : N < 18446744073709551616) : Calls Tryd.prog 88 #[.int .u64 (N : Int)] w fun e w' => e = .returned (.agg (bcells (eightL N)).toArray) ∧ Below w.heap.size w w' := by
  have HN : Hid _ := hN
  clear hN
  go_enter Tryd.func88, Tryd.ntmps88
  go_wp2
  go_loopw [5] (fun i wr => ∃ k : Nat, k ≤ 8 ∧ i = .int .i64 k ∧ Row wr (w.heap.size + 1) (bcells (e8 N k)) 132 ∧ Row wr w.heap.size (bcells (e8 0 0)) 132 ∧ Below w.heap.size w wr) (fun i _ => 8 - (intOf i).toNat)
  case atStart =>
    exact ⟨0, by omega, rfl, Row.new' _ _ _ _ _ (by simp) rfl, (Row.new' _ _ _ _ _ rfl rfl).alloc _, (((Below.refl _ _).alloc (Nat.le_refl _) _).alloc (by simp) _)⟩
  case round =>
    obtain ⟨k, hk, rfl, R1, R0, hb⟩ := hrel
    by_cases hlt : k < 8
    · have hlt' : (k : Int) < 8 := by omega
      obtain ⟨sh, hsh⟩ : ∃ sh, sh = 56 - 8 * k := ⟨_, rfl⟩
      have h1 : (56 : Int) - 8 * (k : Int) = (sh : Int) := by omega
      have h2 : (sh : Int) ≤ 64 := by omega
      have hv : IntKind.u8.wrap ((N : Int) / 2 ^ sh) = ub (eb N k) := by
        rw [IntKind.wrap_u8', ub, eb, BitVec.toNat_ofNat, hsh]; simp
      have hv' : ((N : Int) / 2 ^ sh) % 256 = ub (eb N k) := by rw [← IntKind.wrap_u8']; exact hv
      have f1 := R1.frozen k
      have f2 : ∃ v, wr.cell? ⟨w.heap.size + 1, k, none⟩ = some v := ⟨_, R1.cell k _ (bcells_get (by rw [e8_len _ _ hk]; exact hlt))⟩
      obtain ⟨v, f2⟩ := f2
      have HR1 : Hid _ := R1
      have HR0 : Hid _ := R0
      have HB : Hid _ := hb
      have HS : Hid _ := e8_set N k hlt
      clear R1 R0 hb hsh
      generalize eb N k = ek at *
      go_wp2
      go_roundw
      case rel =>
        refine ⟨k + 1, hlt, by go_num, ?_, HR0.out.setOther _ (show w.heap.size ≠ w.heap.size + 1 by omega) _, HB.out.setCell (show w.heap.size ≤ w.heap.size + 1 by omega) _⟩
        have hr := HR1.out.set k (.int .u8 (ub ek))
        rw [bcells_set, HS.out] at hr
        exact hr
      case measure => simp [intOf]; omega
    · have ek : k = 8 := by omega
      subst ek
      have e1 : e8 N 8 = eightL N := by simp [e8, eightL]
      rw [e1] at R1
      have i63 : (Tryd.prog.info? 132).map (·.size) = some 8 := by kernel_rfl
      have I63 : Hid _ := i63
      have HL8 : Hid ((eightL N).length = 8) := by show (eightL N).length = 8; simp [eightL]
      have HR1 : Hid _ := R1
      have HR0 : Hid _ := R0
      have HB : Hid _ := hb
      clear R1 R0 hb i63 e1
      generalize hE : eightL N = E at *
      have HE : Hid _ := hE
      clear hE
      go_wp2_with (first
        | (show wpList _ _ _ (Oper.mk (some 17) (.load 132 (.tmp 3)) _ _ _ _ :: _) _ _; refine HR1.out.wpLoad 132 (.tmp 3) rfl rfl rfl _ Tryd.underlying132 rfl (by rw [bcells_len, HL8.out]; exact I63.out) ?_)
        | (show wpList _ _ _ (Oper.mk none (.store 132 (.tmp 2) (.tmp 17)) _ _ _ _ :: _) _ _; refine HR0.out.wpStore' 132 (.tmp 2) (.tmp 17) (bcells E) rfl rfl rfl rfl (by rw [bcells_len, bcells_len, HL8.out]; rfl) (bcells_one _) (by rw [bcells_len, HL8.out]; exact I63.out) ?_; intro wz HZ))
      have R : Row wz w.heap.size (bcells E) 132 := by rw [HZ.out]; exact HR0.out.row _
      have hB : Below w.heap.size w wz := by rw [HZ.out]; exact Go.below_setRow HB.out (Nat.le_refl _) _
      exact bodyPost_ret (v := .agg (bcells E).toArray) (R.result Tryd.results88 _ rfl _ Tryd.underlying132 rfl (by rw [bcells_len, HL8.out]; exact I63.out)) rfl ⟨by rw [HE.out], hB⟩

/-- What stands between a text of n bytes and its length. -/
def padL (n : Nat) : List (BitVec 8) := 128#8 :: List.replicate ((119 - n % 64) % 64) 0#8
theorem made0 (n : Nat) : madeCells #[.int .u8 0] n = (bcells (List.replicate n 0#8)).toArray := by
  apply Array.ext_getElem?
  intro j
  by_cases h : j < n
  · simp [madeCells, bcells, h, Nat.mod_one, bv]; rfl
  · simp [madeCells, bcells, h]
theorem info5 : ∃ i : TypeInfo, Tryd.prog.info? 5 = some i ∧ i.zero = some (.int .u8 0) ∧ i.size = 1 ∧ i.bytes = 1 := by
  have h : (Tryd.prog.info? 5).map (fun i => (i.zero, i.size, i.bytes)) = some (some (.int .u8 0), 1, 1) := by kernel_rfl
  cases hq : Tryd.prog.info? 5 with
  | none => rw [hq] at h; cases h
  | some i =>
    rw [hq] at h
    simp only [Option.map_some, Option.some.injEq, Prod.mk.injEq] at h
    exact ⟨i, rfl, h.1, h.2.1, h.2.2⟩
/-- make([]byte, n). -/
theorem wpMakeB {ops : Array Oper} {rest : List Oper} {o : Oper} {a : Act} {w : World} {Q : Exit → Act → World → Prop} (x y : Operand) (k : IntKind) (n : Nat) (hgd : o.guard = none) (ho : o.op = .makeSlice 22 x y) (hx : a.eval x = .int k (n : Int)) (hy : a.eval y = .int k (n : Int)) (hn : n ≤ 281474976710656)
    (h : ∀ w', Hid (w' = w.alloc (.cells (bcells (List.replicate n 0#8)).toArray 5)) → wpList Tryd.prog ops Q rest (a.put o.dst (.slice (some ⟨w.heap.size, 0, none⟩) n n)) w') : wpList Tryd.prog ops Q (o :: rest) a w := by
  obtain ⟨i, h1, h2, h3, h4⟩ := info5
  have hr := run_make (P := Tryd.prog) w 22 5 i (.int .u8 0) Tryd.underlying22 h1 h2 k k (n : Int) (n : Int) (by omega) (by omega) (by rw [h4]; omega) (by omega)
  simp only [Int.toNat_natCast, h3, Nat.mul_one, Value.cells, made0] at hr
  refine wpList_plain hgd fun K hK => ?_
  unfold Oper.wp execOp
  simp only [ho, hx, hy, Sem.run_bind, hr, Result.andThen_ok, Sem.run_pure]
  exact hK _ _ (h _ rfl)

set_option maxHeartbeats 600000 in
theorem padding_any (w : World) (N : Nat) : Calls Tryd.prog 89 #[.int .u64 (N : Int)] w fun e w' => ∃ g cap, e = .returned (.slice (some ⟨g, 0, none⟩) (padL N).length cap) ∧ w.heap.size ≤ g ∧ (padL N).length ≤ cap ∧ cap ≤ 281474976710656 ∧ BytesAt w' (some ⟨g, 0, none⟩) (padL N) ∧ Below w.heap.size w w' := by
  obtain ⟨z, hz, hz2⟩ : ∃ z, z = (119 - N % 64) % 64 ∧ z < 64 := ⟨_, rfl, Nat.mod_lt _ (by decide)⟩
  have hzi : ((119 : Int) - (N : Int) % 64) % 64 = (z : Int) := by omega
  have hz3 : (z : Int) < 64 := by omega
  have HPL : Hid (padL N = 128#8 :: List.replicate z 0#8) := by show padL N = _; unfold padL; rw [← hz]
  obtain ⟨m, hm⟩ : ∃ m, m = 1 + z := ⟨_, rfl⟩
  have hc1 : (1 : Int) + (z : Int) = (m : Int) := by omega
  have HM : Hid _ := hm
  have hm1 : (0 : Int) < (m : Int) := by omega
  have HM2 : Hid (m ≤ 64) := by show m ≤ 64; omega
  clear hz hm
  go_enter Tryd.func89, Tryd.ntmps89
  go_upto_region 2 with (fail)
  rw [hzi]
  clear hzi hz2
  go_wp2_with (first
    | (at_make; refine wpMakeB (.tmp 10) (.tmp 10) .u64 m rfl rfl rfl rfl (by have := HM2.out; omega) ?_; intro w1 HW; have c0 : w1.cell? ⟨w.heap.size, 0, none⟩ = some (.int .u8 0) := (by rw [HW.out]; exact (Row.new w _ 5).cell 0 _ (by rw [HM.out, Nat.add_comm]; rfl)); have f0 : w1.frozen? ⟨w.heap.size, 0, none⟩ = false := (by rw [HW.out]; exact (Row.new w _ 5).frozen 0)))
  go_ret
  have hPL := HPL.out
  have hl : (padL N).length = m := by rw [hPL, HM.out]; simp; omega
  refine ⟨w.heap.size, m, by rw [hl]; rfl, Nat.le_refl _, by omega, by have := HM2.out; omega, ?_, ?_⟩
  · have R : Row (w1.setCell ⟨w.heap.size, 0, none⟩ (.int .u8 128)) w.heap.size (bcells (padL N)) 5 := by
      have := (Row.new w (bcells (List.replicate m 0#8)) 5).set 0 (.int .u8 (ub 128#8))
      rw [← HW.out, bcells_set, HM.out, Nat.add_comm 1 z, List.replicate_succ, List.set_cons_zero, ← hPL] at this
      exact this
    intro k hk
    refine ⟨_, 0, rfl, ?_⟩
    rw [Nat.zero_add]
    exact R.cell k _ (bcells_get hk)
  · have hb : Below w.heap.size w w1 := by rw [HW.out]; exact (Below.refl _ _).alloc (Nat.le_refl _) _
    exact hb.setCell (p := ⟨w.heap.size, 0, none⟩) (Nat.le_refl w.heap.size) _
end Go.Proofs.YtaklbofbhanjgaaDoor
namespace Go.Proofs.YtaklbofbhanjgaaDoor
open Go.RowKit
set_option maxRecDepth 100000

/-- A text, padded. -/
def padded (c : List (BitVec 8)) : List (BitVec 8) := c ++ padL (c.length % 18446744073709551616) ++ eightL (c.length % 18446744073709551616 * 8 % 18446744073709551616)
/-- A word's four bytes, the highest first. -/
def wordBytes (x : BitVec 32) : List (BitVec 8) := [(x >>> 24).setWidth 8, (x >>> 16).setWidth 8, (x >>> 8).setWidth 8, x.setWidth 8]
def outN (l : List (BitVec 32)) (k : Nat) : List (BitVec 8) := ((l.take k).map wordBytes).flatten ++ List.replicate (32 - 4 * k) 0#8
/-- The long sum of a text. -/
def sha (c : List (BitVec 8)) : List (BitVec 8) := ((stAt (padded c) ((padded c).length / 64)).l.map wordBytes).flatten
theorem St.len (s : St) : s.l.length = 8 := rfl
theorem wordsFlat_len (l : List (BitVec 32)) : ((l.map wordBytes).flatten).length = 4 * l.length := by
  induction l with
  | nil => rfl
  | cons a l ih => simp only [List.map_cons, List.flatten_cons, List.length_append, List.length_cons, ih]; simp [wordBytes]; omega
theorem outN_len (l : List (BitVec 32)) (k : Nat) (h : l.length = 8) (hk : k ≤ 8) : (outN l k).length = 32 := by
  unfold outN
  rw [List.length_append, wordsFlat_len, List.length_take, List.length_replicate]; omega
theorem set_four {α : Type} (A : List α) (z0 z1 z2 z3 x0 x1 x2 x3 : α) (B : List α) (n : Nat) (h : A.length = n) :
    (((((A ++ z0 :: z1 :: z2 :: z3 :: B).set n x0).set (n + 1) x1).set (n + 2) x2).set (n + 3) x3) = A ++ [x0, x1, x2, x3] ++ B := by
  subst h
  rw [List.set_append_right _ _ (by omega), List.set_append_right _ _ (by omega), List.set_append_right _ _ (by omega), List.set_append_right _ _ (by omega)]
  simp
theorem outN_step (l : List (BitVec 32)) (k : Nat) (h : l.length = 8) (hk : k < 8) :
    ((((outN l k).set (4 * k) (((l.getD k 0) >>> 24).setWidth 8)).set (4 * k + 1) (((l.getD k 0) >>> 16).setWidth 8)).set (4 * k + 2) (((l.getD k 0) >>> 8).setWidth 8)).set (4 * k + 3) ((l.getD k 0).setWidth 8) = outN l (k + 1) := by
  have hl : (((l.take k).map wordBytes).flatten).length = 4 * k := by rw [wordsFlat_len, List.length_take]; omega
  obtain ⟨m, hm⟩ : ∃ m, 32 - 4 * k = m + 4 := ⟨28 - 4 * k, by omega⟩
  have e1 : outN l k = ((l.take k).map wordBytes).flatten ++ 0#8 :: 0#8 :: 0#8 :: 0#8 :: List.replicate m 0#8 := by
    unfold outN; rw [hm]; rfl
  rw [e1, set_four _ _ _ _ _ _ _ _ _ _ _ hl]
  unfold outN
  rw [List.take_succ_eq_append_getElem (by omega), List.map_append, List.flatten_append, show 32 - 4 * (k + 1) = m by omega]
  have : l.getD k 0 = l[k] := by simp [List.getElem?_eq_getElem (show k < l.length by omega)]
  rw [this]
  simp [wordBytes]
theorem outN_full (l : List (BitVec 32)) (h : l.length = 8) : outN l 8 = (l.map wordBytes).flatten := by
  unfold outN; rw [List.take_of_length_le (by omega)]; simp

theorem HashAt.kept {w w' : World} {p : Nat} {c : List (BitVec 8)} (h : HashAt w p c) (hb : Below w.heap.size w w') : HashAt w' p c := by
  obtain ⟨s, l, t, R⟩ := h
  exact ⟨s, l, t, R.kept hb R.lt⟩
theorem take_len {w : World} {p : Nat} {c : List (BitVec 8)} (hH : HashAt w p c) (hp : 2 ≤ p) (hK : KTab w) {a : Option Addr} {cap n : Nat} {bs : List (BitVec 8)} (hn : bs.length = n) (hB : BytesOff p w a bs) (hlen : n ≤ cap) (hcap : cap ≤ 281474976710656) :
    Calls Tryd.prog 68 #[.pointer (some ⟨p, 0, none⟩), .slice a n cap] w fun e w' => e = .returned (.tuple #[]) ∧ HashAt w' p (c ++ bs) ∧ Only p w w' := by
  subst hn; exact take_any hH hp hK hB hlen (Nat.le_trans hcap (by decide))
theorem Row.bytesOff {w : World} {g t : Nat} {bs : List (BitVec 8)} (R : Row w g (bcells bs) t) {p : Nat} (hp : g ≠ p) : BytesOff p w (some ⟨g, 0, none⟩) bs := fun k hk => ⟨g, 0, rfl, hp, by rw [Nat.zero_add]; exact R.cell k _ (bcells_get hk)⟩
theorem BytesAt.offNe {w : World} {g o : Nat} {bs : List (BitVec 8)} (h : BytesAt w (some ⟨g, o, none⟩) bs) {p : Nat} (hp : g ≠ p) : BytesOff p w (some ⟨g, o, none⟩) bs := fun k hk => by
  obtain ⟨g2, o2, e, c⟩ := h k hk
  cases e
  exact ⟨g, o, rfl, hp, c⟩

set_option maxHeartbeats 1500000 in
theorem digest_any {w : World} {p : Nat} {c : List (BitVec 8)} (hH : HashAt w p c) (hp : 2 ≤ p) (hK : KTab w) :
    Calls Tryd.prog 69 #[.pointer (some ⟨p, 0, none⟩)] w fun e w' => e = .returned (.agg (bcells (sha c)).toArray) ∧ Below w.heap.size w w' := by
  obtain ⟨s, left, hT, hR⟩ := hH
  have h2 : Hid (2 ≤ w.heap.size) := by show 2 ≤ w.heap.size; have := hR.lt; omega
  have hz39 := z39
  have HK : Hid (KTab w) := hK
  have HT : Hid _ := hT
  have HR : Hid _ := hR
  have I39 : Hid _ := i39
  have I44 : Hid _ := i44
  have hs := hR.cell 73 _ (hcells_size s left _ hT.len)
  clear hK hT hR
  go_enter Tryd.func69, Tryd.ntmps69
  go_upto_region 1 with (fail)
  refine wp_world fun wa HW => ?_
  have HRr : Hid (Row wa w.heap.size (bcells z32) 25) := by show Row _ _ _ _; rw [HW.out]; exact Row.new' _ _ _ _ _ rfl rfl
  have HBa : Hid (Below w.heap.size w wa) := by show Below _ _ _; rw [HW.out]; exact (Below.refl _ _).alloc (Nat.le_refl _) _
  have HRa : Hid (Row wa p (hcells s left (c.length % 18446744073709551616)) 108) := by show Row _ _ _ _; rw [HW.out]; exact HR.out.alloc _
  have hs2 := cell_kept HBa.out hs
  have HNe : Hid (p < w.heap.size) := HR.out.lt
  have HSa : Hid (wa.heap.size = w.heap.size + 1) := by show wa.heap.size = _; rw [HW.out]; simp
  clear HW hs
  have LH : Hid ((hcells s left (c.length % 18446744073709551616)).length = 74) := hcells_len _ _ _ HT.out.len
  have HMN : Hid (c.length % 18446744073709551616 < 18446744073709551616) := Nat.mod_lt _ (by decide)
  generalize hN : c.length % 18446744073709551616 = N at *
  have HN : Hid _ := hN
  clear hN
  go_upto_region 2 with (first
    | (show wpList _ _ _ (Oper.mk (some 10) (.load 108 (.tmp 9)) _ _ _ _ :: _) _ _; refine HRa.out.wpLoad 108 (.tmp 9) rfl rfl rfl _ Tryd.underlying108 rfl (by rw [LH.out]; exact I39.out) ?_)
    | (show wpList _ _ _ (Oper.mk none (.store 108 (.tmp 3) (.tmp 10)) _ _ _ _ :: _) _ _; refine (Row.new wa hz 108).wpStore' 108 (.tmp 3) (.tmp 10) (hcells s left N) rfl rfl rfl rfl (by rw [hz_len, LH.out]) (hcells_one _ _ _) (by rw [LH.out]; exact I39.out) ?_; intro wb HW))
  have HSb : Hid (wb.heap.size = wa.heap.size + 1) := by show wb.heap.size = _; rw [HW.out]; simp
  have HBb : Hid (Below wa.heap.size wa wb) := by show Below _ _ _; rw [HW.out]; exact Go.below_setRow ((Below.refl _ _).alloc (Nat.le_refl _) _) (Nat.le_refl _) _
  have HQb : Hid (Row wb wa.heap.size (hcells s left N) 108) := by show Row _ _ _ _; rw [HW.out]; exact (Row.new wa hz 108).row _
  have HRb : Hid (Row wb w.heap.size (bcells z32) 25) := HRr.out.kept HBb.out HRr.out.lt
  have hs3 := cell_kept HBb.out hs2
  have HBw : Hid (Below w.heap.size w wb) := HBa.out.trans (HBb.out.mono HBa.out.size)
  have HRQ : Hid (w.heap.size < wa.heap.size) := HRr.out.lt
  clear HW HRa HRr HBa HBb hs2
  generalize wa.heap.size = q at *
  obtain ⟨N8, hN8⟩ : ∃ N8, N8 = N * 8 % 18446744073709551616 := ⟨_, rfl⟩
  have w8 : IntKind.u64.wrap ((N : Int) * 8) = (N8 : Int) := by rw [IntKind.wrap_u64]; omega
  have w8' : ((N : Int) * 8) % 18446744073709551616 = (N8 : Int) := by omega
  have HN8 : Hid _ := hN8
  have HL8 : Hid (N8 < 18446744073709551616) := by show N8 < _; rw [hN8]; exact Nat.mod_lt _ (by decide)
  have i63 : (Tryd.prog.info? 132).map (·.size) = some 8 := by kernel_rfl
  have I63 : Hid _ := i63
  have LE : Hid ((eightL N8).length = 8) := by show (eightL N8).length = 8; simp [eightL]
  clear hN8 i63
  go_upto_region 3 with (first
    | (go_at_call 88; refine (eight_any _ N8 HL8.out).mono ?_; rintro e w1 ⟨rfl, hb1⟩; have HB1 : Hid _ := hb1; clear hb1)
    | (show wpList _ _ _ (Oper.mk none (.store 132 (.tmp 4) (.tmp 16)) _ _ _ _ :: _) _ _; refine (Row.new' w1 _ (bcells (e8 0 0)) 132 _ rfl rfl).wpStore' 132 (.tmp 4) (.tmp 16) (bcells (eightL N8)) rfl rfl rfl rfl (by rw [bcells_len, bcells_len, LE.out]; rfl) (bcells_one _) (by rw [bcells_len, LE.out]; exact I63.out) ?_; intro wc HW))
  have HLT : Hid (q < w1.heap.size) := Nat.lt_of_lt_of_le HQb.out.lt HB1.out.size
  have HBc : Hid (Below wb.heap.size wb wc) := by show Below _ _ _; rw [HW.out]; exact Go.below_setRow (HB1.out.alloc HB1.out.size _) HB1.out.size _
  have HEc : Hid (Row wc w1.heap.size (bcells (eightL N8)) 132) := by show Row _ _ _ _; rw [HW.out]; exact (Row.new' w1 _ (bcells (e8 0 0)) 132 _ rfl rfl).row _
  have HQc : Hid (Row wc q (hcells s left N) 108) := HQb.out.kept HBc.out HQb.out.lt
  have HRc : Hid (Row wc w.heap.size (bcells z32) 25) := HRb.out.kept HBc.out HRb.out.lt
  have hs4 := cell_kept HBc.out hs3
  have HBwc : Hid (Below w.heap.size w wc) := HBw.out.trans (HBc.out.mono HBw.out.size)
  have HKc : Hid (KTab wc) := HK.out.kept HBwc.out
  have HHc : Hid (HashAt wc q c) := ⟨s, left, HT.out, by rw [HN.out]; exact HQc.out⟩
  have Hq2 : Hid (2 ≤ q) := by show 2 ≤ q; have := h2.out; have := HRQ.out; omega
  clear HW HQb HRb hs3 HBw HBc HB1 HQc HR HNe HSa HSb
  generalize w1.heap.size = b8 at *
  go_upto_region 5 with (first
    | (go_at_call 89; refine (padding_any _ N).mono ?_; rintro e w2 ⟨g, cap, rfl, hg, hlc, hcc, hby, hb2⟩; have HG : Hid _ := hg; have HLC : Hid _ := hlc; have HCC : Hid _ := hcc; have HBY : Hid (BytesAt w2 (some ⟨g, 0, none⟩) (padL N)) := hby; have HB2 : Hid _ := hb2; clear hg hlc hcc hby hb2)
    | (go_at_call_of 68 (Value.slice (some ⟨g, 0, none⟩) (padL N).length cap); refine (take_len (c := c) (w := w2) (HHc.out.kept HB2.out) Hq2.out (HKc.out.kept HB2.out) rfl (HBY.out.offNe (by have h1 := HG.out; have h2 := HEc.out.lt; have h3 := HLT.out; omega)) HLC.out HCC.out).mono ?_; rintro e w3 ⟨rfl, hh, ho⟩; have HH3 : Hid _ := hh; have HO3 : Hid _ := ho; clear hh ho)
    | (go_at_call_of 68 (Value.slice (some ⟨b8, 0, none⟩) 8 8); refine (take_len (w := w3) (bs := eightL N8) HH3.out Hq2.out ((HKc.out.kept HB2.out).only HO3.out Hq2.out) LE.out ((HO3.out.row (HEc.out.kept HB2.out HEc.out.lt) (by have h3 := HLT.out; omega)).bytesOff (by have h3 := HLT.out; omega)) (Nat.le_refl _) (by decide)).mono ?_; rintro e w4 ⟨rfl, hh, ho⟩; have HH4 : Hid _ := hh; have HO4 : Hid _ := ho; clear hh ho))
  have HR4 : Hid (Row w4 w.heap.size (bcells z32) 25) := HO4.out.row (HO3.out.row (HRc.out.kept HB2.out HRc.out.lt) (by have := HRQ.out; omega)) (by have := HRQ.out; omega)
  have HB4 : Hid (Below w.heap.size w w4) := HBwc.out.trans ((HB2.out.mono HBwc.out.size).trans ((HO3.out.below (Nat.le_trans HBwc.out.size HB2.out.size) (Nat.le_of_lt HRQ.out)).trans (HO4.out.below (Nat.le_trans HBwc.out.size (Nat.le_trans HB2.out.size HO3.out.size)) (Nat.le_of_lt HRQ.out))))
  have HPAD : Hid (c ++ padL N ++ eightL N8 = padded c) := by show _ = padded c; unfold padded; rw [HN.out, ← HN8.out]
  have hh4 := HH4.out
  rw [HPAD.out] at hh4
  obtain ⟨s4, left4, hT4, R4⟩ := hh4
  have HSHA : Hid (sha c = (s4.l.map wordBytes).flatten) := by show sha c = _; unfold sha; rw [← hT4.st]
  have HQ4 : Hid _ := R4
  have i34 : (Tryd.prog.info? 104).map (·.size) = some 8 := by kernel_rfl
  have I34 : Hid _ := i34
  clear hT4 R4 i34 HH4 HH3 HO3 HO4 HB2 HHc HBY HG HLC HCC HEc HRc HBwc HKc HK hs4 HPAD HL8 HLT w8 w8' LE I63 LH HMN HN HN8 HT h2 I39 hz39
  generalize (padded c).length % 18446744073709551616 = M at *
  go_wp2_with (first
    | (show wpList _ _ _ (Oper.mk (some 26) (.load 104 (.tmp 25)) _ _ _ _ :: _) _ _; refine wpList_load_mid rfl 104 (.tmp 25) rfl q 1 rfl (wcells s4.l) _ ((HQ4.out.alloc _).range 1 _ (hcells_st _ _ _)) Tryd.underlying104 rfl I34.out ?_))
  obtain ⟨B, hB⟩ : ∃ B, B = w4.heap.size := ⟨_, rfl⟩
  rw [← hB]
  have HBB : Hid (w.heap.size < B) := by show _ < B; rw [hB]; exact HR4.out.lt
  have HB0 : Hid _ := hB
  clear hB
  go_loopw [27] (fun i wr => ∃ k : Nat, k ≤ 8 ∧ i = .int .i64 k ∧ Row wr B (bcells (outN s4.l k)) 25 ∧ Row wr w.heap.size (bcells z32) 25 ∧ Below w.heap.size w wr) (fun i _ => 8 - (intOf i).toNat)
  case atStart =>
    exact ⟨0, by omega, rfl, by rw [HB0.out]; exact Row.new' _ _ _ _ _ rfl rfl, HR4.out.alloc _, HB4.out.alloc HB4.out.size _⟩
  case round =>
    clear HR4 HB4 HQ4 HB0
    obtain ⟨k, hk, rfl, R1, R0, hb⟩ := hrel
    by_cases hlt : k < 8
    · have hlt' : (k : Int) < 8 := by omega
      have ix := run_index_words 104 8 Tryd.underlying104 s4.l rfl k hlt
      have HST : Hid _ := outN_step s4.l k rfl hlt
      have hlen := outN_len s4.l k rfl hk
      generalize s4.l.getD k 0 = x at *
      obtain ⟨m, hm⟩ : ∃ m, m = 4 * k := ⟨_, rfl⟩
      have hmi : (4 : Int) * (k : Int) = (m : Int) := by omega
      have hm28 : m ≤ 28 := by omega
      have f0 := R1.frozen m
      have f1 := R1.frozen (m + 1)
      have f2 := R1.frozen (m + 2)
      have f3 := R1.frozen (m + 3)
      obtain ⟨v0, c0⟩ : ∃ v, wr.cell? ⟨B, m, none⟩ = some v := ⟨_, R1.cell m _ (bcells_get (by omega))⟩
      obtain ⟨v1, c1⟩ : ∃ v, wr.cell? ⟨B, m + 1, none⟩ = some v := ⟨_, R1.cell (m + 1) _ (bcells_get (by omega))⟩
      obtain ⟨v2, c2⟩ : ∃ v, wr.cell? ⟨B, m + 2, none⟩ = some v := ⟨_, R1.cell (m + 2) _ (bcells_get (by omega))⟩
      obtain ⟨v3, c3⟩ : ∃ v, wr.cell? ⟨B, m + 3, none⟩ = some v := ⟨_, R1.cell (m + 3) _ (bcells_get (by omega))⟩
      have hmb : (m : Int) ≤ 28 := by omega
      have HR1 : Hid _ := R1
      have HR0 : Hid _ := R0
      have HB : Hid _ := hb
      have HM : Hid _ := hm
      clear R1 R0 hb hm hlen
      go_wp2
      go_roundw
      case rel =>
        refine ⟨k + 1, hlt, by go_num, ?_, (((HR0.out.setOther _ (show w.heap.size ≠ B by have := HBB.out; omega) _).setOther _ (show w.heap.size ≠ B by have := HBB.out; omega) _).setOther _ (show w.heap.size ≠ B by have := HBB.out; omega) _).setOther _ (show w.heap.size ≠ B by have := HBB.out; omega) _, ?_⟩
        · have hr := (((HR1.out.set m (.int .u8 (ub ((x >>> 24).setWidth 8)))).set (m + 1) (.int .u8 (ub ((x >>> 16).setWidth 8)))).set (m + 2) (.int .u8 (ub ((x >>> 8).setWidth 8)))).set (m + 3) (.int .u8 (ub (x.setWidth 8)))
          rw [bcells_set, bcells_set, bcells_set, bcells_set, HM.out, HST.out] at hr
          rw [HM.out]
          exact hr
        · have hle := Nat.le_of_lt HBB.out
          exact (((HB.out.setCell (p := ⟨B, m, none⟩) hle _).setCell (p := ⟨B, m + 1, none⟩) hle _).setCell (p := ⟨B, m + 2, none⟩) hle _).setCell (p := ⟨B, m + 3, none⟩) hle _
      case measure => simp [intOf]; omega
    · have ek : k = 8 := by omega
      subst ek
      rw [outN_full _ rfl, ← HSHA.out] at R1
      have HLS : Hid ((sha c).length = 32) := by show (sha c).length = 32; rw [HSHA.out, wordsFlat_len]; rfl
      have HR1 : Hid _ := R1
      have HR0 : Hid _ := R0
      have HB : Hid _ := hb
      clear R1 R0 hb HSHA
      generalize hE : sha c = E at *
      have HE : Hid _ := hE
      clear hE
      go_wp2_with (first
        | (show wpList _ _ _ (Oper.mk (some 58) (.load 25 (.tmp 5)) _ _ _ _ :: _) _ _; refine HR1.out.wpLoad 25 (.tmp 5) rfl rfl rfl _ Tryd.underlying25 rfl (by rw [bcells_len, HLS.out]; exact I44.out) ?_)
        | (show wpList _ _ _ (Oper.mk none (.store 25 (.tmp 2) (.tmp 58)) _ _ _ _ :: _) _ _; refine HR0.out.wpStore' 25 (.tmp 2) (.tmp 58) (bcells E) rfl rfl rfl rfl (by rw [bcells_len, bcells_len, HLS.out]; rfl) (bcells_one _) (by rw [bcells_len, HLS.out]; exact I44.out) ?_; intro wz HZ))
      have R : Row wz w.heap.size (bcells E) 25 := by rw [HZ.out]; exact HR0.out.row _
      have hB : Below w.heap.size w wz := by rw [HZ.out]; exact Go.below_setRow HB.out (Nat.le_refl _) _
      exact bodyPost_ret (v := .agg (bcells E).toArray) (R.result Tryd.results69 _ rfl _ Tryd.underlying25 rfl (by rw [bcells_len, HLS.out]; exact I44.out)) rfl ⟨by rw [HE.out], hB⟩
end Go.Proofs.YtaklbofbhanjgaaDoor
