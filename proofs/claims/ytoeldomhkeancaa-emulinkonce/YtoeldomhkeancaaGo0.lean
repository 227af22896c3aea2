import Derived.Test.YtoeldomhkeancaaDwi
import Derived.Test.YtoeldomhkeancaaDwb
namespace Go.Proofs.Ytoeldomhkeancaa
open Go.RowKit Go.Maps
set_option maxRecDepth 100000

/-- How many bytes these are. -/
def sumW : List (It Value) → Int
  | [] => 0
  | x :: r => intOf x.what + sumW r
theorem sumW_perm {L L' : List (It Value)} (h : L.Perm L') : sumW L = sumW L' := by
  induction h with
  | nil => rfl
  | cons x _ ih => simp only [sumW, ih]
  | swap x y l => simp only [sumW]; omega
  | trans _ _ h1 h2 => exact h1.trans h2
theorem sumW_app (a b : List (It Value)) : sumW (a ++ b) = sumW a + sumW b := by
  induction a with
  | nil => simp [sumW]
  | cons x r ih => simp only [List.cons_append, sumW, ih]; omega
/-- An item that waits holds how many bytes it has: at least one. -/
def Wt (x : It Value) : Prop := ∃ n : Int, x.what = .int .i64 n ∧ 0 < n
theorem Wt.pos {x : It Value} (h : Wt x) : 0 < intOf x.what := by
  obtain ⟨n, e, hn⟩ := h
  rw [e]; exact hn
theorem sumW_nonneg {L : List (It Value)} (h : ∀ x ∈ L, Wt x) : 0 ≤ sumW L := by
  induction L with
  | nil => simp [sumW]
  | cons x r ih =>
    have h1 := (h x (by simp)).pos
    have h2 := ih (fun y hy => h y (by simp [hy]))
    simp only [sumW]; omega
theorem sumW_len {L : List (It Value)} (h : ∀ x ∈ L, Wt x) : (L.length : Int) ≤ sumW L := by
  induction L with
  | nil => simp [sumW]
  | cons x r ih =>
    have h1 := (h x (by simp)).pos
    have h2 := ih (fun y hy => h y (by simp [hy]))
    simp only [sumW, List.length_cons]; omega
/-- Those that are later than t. -/
abbrev lat (t : Int) (L : List (It Value)) : List (It Value) := L.filter fun x => decide (t < x.at_)
theorem lat_all {t : Int} {L : List (It Value)} (hh : Hp L.length (kat L)) (h : ∀ y, L[0]? = some y → t < y.at_) : ∀ x ∈ L, t < x.at_ := fun x hx => by
  obtain ⟨j, hj, e⟩ := List.getElem_of_mem hx
  have h0 : 0 < L.length := by omega
  have h1 := hh.least j hj
  rw [kat_get (List.getElem?_eq_getElem h0), kat_get (List.getElem?_eq_getElem hj), e] at h1
  have h2 := h _ (List.getElem?_eq_getElem h0)
  unfold Le Ah It.key at h1
  simp only at h1
  omega
theorem lat_self {t : Int} {L : List (It Value)} (h : ∀ x ∈ L, t < x.at_) : lat t L = L := List.filter_eq_self.2 (fun x hx => decide_eq_true (h x hx))
/-- What a link keeps. -/
structure Lk.Ok (K : Lk) : Prop where
  r0 : 0 ≤ K.rate
  r1 : K.rate ≤ 1099511627776
  d0 : 0 ≤ K.delay
  d1 : K.delay ≤ 1099511627776
  q0 : 1 ≤ K.queue
  q1 : K.queue ≤ 1073741824
  ln : K.loss.length ≤ 65536
  jn : K.jit.length ≤ 65536
  jt : ∀ x ∈ K.jit, 0 ≤ x ∧ x ≤ 1099511627776
  now0 : 0 ≤ K.now
  now1 : K.now ≤ 4611686018427387904
  wt : ∀ x ∈ K.S, Wt x
  wait : K.wait = sumW K.S
  waitq : K.wait ≤ K.queue
  busy0 : 0 ≤ K.busy
  busy : ∀ s, K.now ≤ s → K.busy ≤ s + 1000000 * sumW (lat s K.S)
theorem Lk.Ok.lenS {K : Lk} (h : K.Ok) : K.S.length ≤ 1073741824 := by
  have h1 := sumW_len h.wt
  have h2 := h.wait
  have h3 := h.waitq
  have h4 := h.q1
  omega
/-- The time of a call. -/
def tm (now n : Int) : Int := max now (min n 4611686018427387904)
/-- What the time's going on does. -/
structure GoE (K : Lk) (t : Int) (K' : Lk) : Prop where
  eq : K' = { K with now := t, S := K'.S, sv := K'.sv, wait := K'.wait }
  S : K'.S.Perm (lat t K.S)
  wait : K'.wait = sumW K'.S
theorem sumW_le {t : Int} {L : List (It Value)} (h : ∀ x ∈ L, Wt x) : sumW (lat t L) ≤ sumW L := by
  induction L with
  | nil => simp
  | cons x r ih =>
    have h1 := (h x (by simp)).pos
    have h2 := ih (fun y hy => h y (by simp [hy]))
    unfold lat at *
    rw [List.filter_cons]
    split
    · simp only [sumW]; omega
    · simp only [sumW]; omega
theorem lat_lat {s t : Int} (h : t ≤ s) (L : List (It Value)) : lat s (lat t L) = lat s L := by
  unfold lat
  rw [List.filter_filter]
  congr 1
  funext x
  by_cases h1 : s < x.at_
  · have h2 : t < x.at_ := by omega
    simp [h1, h2]
  · simp [h1]
theorem GoE.ok {K K' : Lk} {t : Int} (h : GoE K t K') (hk : K.Ok) (h0 : K.now ≤ t) (h1 : t ≤ 4611686018427387904) : K'.Ok := by
  have hw : ∀ x ∈ K'.S, Wt x := fun x hx => hk.wt x (List.mem_filter.1 (h.S.mem_iff.1 hx)).1
  have hs : sumW K'.S ≤ sumW K.S := by rw [sumW_perm h.S]; exact sumW_le hk.wt
  have e := h.eq
  have hq := hk.waitq
  have hwt := hk.wait
  have hwt' := h.wait
  have hS := h.S
  have n0 := hk.now0
  generalize K'.S = S' at *
  generalize K'.wait = w' at *
  generalize K'.sv = v' at *
  subst e
  refine ⟨hk.r0, hk.r1, hk.d0, hk.d1, hk.q0, hk.q1, hk.ln, hk.jn, hk.jt, by show (0 : Int) ≤ t; omega, h1, hw, hwt', by show w' ≤ K.queue; omega, hk.busy0, fun s hs' => ?_⟩
  have := hk.busy s (Int.le_trans h0 hs')
  show K.busy ≤ s + 1000000 * sumW (lat s S')
  have e2 : lat s (lat t K.S) = lat s K.S := lat_lat (show t ≤ s from hs') K.S
  rw [sumW_perm (hS.filter _)]
  show K.busy ≤ s + 1000000 * sumW (lat s (lat t K.S))
  rw [e2]
  exact this
/-- So far. -/
structure GoI (K0 : Lk) (t : Int) (K : Lk) : Prop where
  eq : K = { K0 with S := K.S, sv := K.sv, wait := K.wait }
  S : (lat t K.S).Perm (lat t K0.S)
  wait : K.wait = sumW K.S
  wt : ∀ x ∈ K.S, Wt x
  le : K.wait ≤ 1073741824
theorem GoI.step {K0 K : Lk} {t m : Int} {x : It Value} {L' : List (It Value)} {v' : Value} (h : GoI K0 t K) (hx : x.at_ ≤ t) (hp : (x :: L').Perm K.S) (hm : x.what = .int .i64 m) : GoI K0 t { K with S := L', sv := v', wait := K.wait - m } := by
  have hw : ∀ y ∈ L', Wt y := fun y hy => h.wt y (hp.mem_iff.1 (by simp [hy]))
  have hx1 := (h.wt x (hp.mem_iff.1 (by simp))).pos
  have hs := sumW_perm hp
  have hm' : intOf x.what = m := by rw [hm]; rfl
  simp only [sumW] at hs
  refine ⟨?_, ?_, ?_, hw, ?_⟩
  · have e := h.eq
    generalize K.S = a at *
    generalize K.wait = b at *
    generalize K.sv = c at *
    subst e
    rfl
  · have h1 := hp.filter (fun x => decide (t < x.at_))
    rw [List.filter_cons_of_neg (by simp; omega)] at h1
    exact h1.trans h.S
  · show K.wait - m = sumW L'
    have := h.wait
    omega
  · show K.wait - m ≤ 1073741824
    have := h.le
    omega
/-- How many wait. -/
def lenAt (w : World) (p : Nat) : Nat := match w.cell? ⟨p, 13, none⟩ with
  | some (.slice _ n _) => n
  | _ => 0
theorem lenAt_of {w : World} {p : Nat} {K : Lk} (h : LkAt w p K) : lenAt w p = K.S.length := by
  obtain ⟨a, cap, e, _⟩ := h.hs.slice
  unfold lenAt
  rw [h.hs.cell, e]
set_option maxHeartbeats 4000000 in
/-- The time goes on. -/
theorem goOn_any {w : World} {p : Nat} {K : Lk} (h : LkAt w p K) (hk : K.Ok) (n : Int) :
    Calls Try.prog 20 #[pt p 0, .int .u64 n] w fun e w' => e = .returned (.tuple #[]) ∧ ∃ K', Lm p K w K' w' ∧ GoE K (tm K.now n) K' := by
  have c5 := h.row.cell 5 _ rfl
  have f5 := h.row.frozen 5
  have h0 := hk.now0
  have h1 := hk.now1
  obtain ⟨t, ht⟩ : ∃ t, tm K.now n = t := ⟨_, rfl⟩
  have htt : max K.now (min n 4611686018427387904) = t := ht
  have M1 : Lm p K w { K with now := t } (w.setCell ⟨p, 5, none⟩ (.int .u64 t)) := h.set 5 (.int .u64 t) rfl (by decide) (by decide) rfl rfl rfl rfl rfl rfl rfl rfl rfl
  have HM1 := hid M1
  have HI0 : Hid (GoI { K with now := t } t { K with now := t }) := ⟨rfl, List.Perm.refl _, hk.wait, hk.wt, Int.le_trans hk.waitq hk.q1⟩
  have HEND : Hid (∀ K', GoI { K with now := t } t K' → Hp K'.S.length (kat K'.S) → (∀ y, K'.S[0]? = some y → t < y.at_) → GoE K t K') := fun K' hI hH hy => by
    refine ⟨hI.eq, ?_, hI.wait⟩
    have := hI.S
    rwa [lat_self (lat_all hH hy)] at this
  rw [ht]
  clear h hk M1 ht
  go_enter Try.func20, Try.ntmps20
  have c50 := HM1.out.at_.row.cell 5 _ rfl
  go_wp2_with fail
  clear c5 f5 htt h0 h1
  obtain ⟨K0, hK0⟩ : ∃ K0, K0 = ({ K with now := t } : Lk) := ⟨_, rfl⟩
  have hK0n : K0.now = t := by rw [hK0]
  rw [← hK0] at HM1 HI0 HEND
  have HE2 : Hid (∀ wr Kr, Lm p K0 (w.setCell ⟨p, 5, none⟩ (.int .u64 t)) Kr wr → GoI K0 t Kr → (∀ y, Kr.S[0]? = some y → t < y.at_) → ∃ K', Lm p K w K' wr ∧ GoE K t K') := fun wr Kr hL hI hy => ⟨Kr, HM1.out.trans hL, HEND.out Kr hI hL.at_.ps hy⟩
  clear HEND c50
  have HM0 := hid HM1.out.at_
  clear HM1 hK0
  generalize w.setCell ⟨p, 5, none⟩ (.int .u64 t) = w1 at *
  go_loopw [18] (fun _ wr => ∃ Kr, Lm p K0 w1 Kr wr ∧ GoI K0 t Kr) (fun _ wr => lenAt wr p)
  case atStart => exact ⟨K0, Lm.refl HM0.out, HI0.out⟩
  case round =>
    obtain ⟨Kr, hL, hI⟩ := hrel
    have HL := hid hL
    have HI := hid hI
    have hKn : Kr.now = t := by rw [hI.eq]; exact hK0n
    have hlen : Kr.S.length ≤ 2932031007402 := by
      have h1 := sumW_len hI.wt
      have h2 := hI.wait
      have h3 := hI.le
      omega
    have c5 := hL.at_.row.cell 5 _ rfl
    rw [hKn] at c5
    have HLA := hid (show lenAt wr p = Kr.S.length from lenAt_of hL.at_)
    have HD : Hid (∀ w', Below wr.heap.size wr w' → Calls Try.prog 31 #[pt p 13, .int .u64 t] w' fun e w2 => ∃ v, e = .returned v ∧ ∃ x ok, v = .tuple #[.agg (icells x).toArray, .bool ok] ∧ x.what.oneCell' = true ∧ DueCi p 13 Kr.cells Kr.sv Kr.S t w' x ok w2) := fun w' hb =>
      (due_anyi (hL.at_.hs.below hb) hL.at_.ps t hlen).mono fun e w2 ⟨x, ok, h1, h2, h3⟩ => ⟨_, h1, x, ok, rfl, h2, h3⟩
    have HMr := hid hL.at_.hs
    clear hL hI HM0 HI0 hlen
    go_upto_region 1 with fail
    go_cut [4, 5] from 18 to 29 (fun v4 v5 wx => DueRi p 13 Kr.cells Kr.sv Kr.S t wr v4 v5 wx)
    case first =>
      refine wp_region_some (fun w' => w'.cell? ⟨p, 5, none⟩ = some (.int .u64 t)) [8, 13] (by kernel_rfl) ?_
      have hHeld := (show (fun w' => w'.cell? ⟨p, 5, none⟩ = some (.int .u64 t)) wr.drew from c5)
      refine wpAnyG_take' (i := 0) (oi := { dst := some 19, op := Go.Op.move (Go.Operand.tmp 0), type := 24, pos := "link.go:73", after := #[], guard := none }) (v := ?v1_0_1) rfl (by kernel_rfl) (by kernel_rfl) (by kernel_rfl) (fun _ _ _ h => h) (Or.inl ⟨by kernel_rfl, ?h1_0_1⟩) ?r1_0_1
      case h1_0_1 => (intro wt hSw; clear hSw; go_simp; try with_reducible rfl)
      simp only [Act.put, List.setIfInBounds_toArray, List.set_cons_zero, List.set_cons_succ]
      refine wpAnyG_take' (i := 1) (oi := { dst := some 20, op := Go.Op.nilCheck (Go.Operand.tmp 19), type := 0, pos := "link.go:73", after := #[{ on := 0, ground := Go.Ground.data }], guard := none }) (v := ?v1_1_2) rfl (by kernel_rfl) (by kernel_rfl) (by kernel_rfl) (fun _ _ _ h => h) (Or.inl ⟨by kernel_rfl, ?h1_1_2⟩) ?r1_1_2
      case h1_1_2 => (intro wt hSw; clear hSw; go_simp; try with_reducible rfl)
      simp only [Act.put, List.setIfInBounds_toArray, List.set_cons_zero, List.set_cons_succ]
      refine wpAnyG_take' (i := 2) (oi := { dst := some 21, op := Go.Op.fieldAddr 38 (Go.Operand.tmp 20) 2, type := 0, pos := "link.go:73", after := #[{ on := 1, ground := Go.Ground.data }], guard := none }) (v := ?v1_2_3) rfl (by kernel_rfl) (by kernel_rfl) (by kernel_rfl) (fun _ _ _ h => h) (Or.inl ⟨by kernel_rfl, ?h1_2_3⟩) ?r1_2_3
      case h1_2_3 => (intro wt hSw; clear hSw; go_simp; try with_reducible rfl)
      simp only [Act.put, List.setIfInBounds_toArray, List.set_cons_zero, List.set_cons_succ]
      refine wpAnyG_take' (i := 3) (oi := { dst := some 22, op := Go.Op.move (Go.Operand.tmp 0), type := 24, pos := "link.go:73", after := #[], guard := none }) (v := ?v1_3_4) rfl (by kernel_rfl) (by kernel_rfl) (by kernel_rfl) (fun _ _ _ h => h) (Or.inl ⟨by kernel_rfl, ?h1_3_4⟩) ?r1_3_4
      case h1_3_4 => (intro wt hSw; clear hSw; go_simp; try with_reducible rfl)
      simp only [Act.put, List.setIfInBounds_toArray, List.set_cons_zero, List.set_cons_succ]
      refine wpAnyG_take' (i := 4) (oi := { dst := some 23, op := Go.Op.nilCheck (Go.Operand.tmp 22), type := 0, pos := "link.go:73", after := #[{ on := 3, ground := Go.Ground.data }], guard := none }) (v := ?v1_4_5) rfl (by kernel_rfl) (by kernel_rfl) (by kernel_rfl) (fun _ _ _ h => h) (Or.inl ⟨by kernel_rfl, ?h1_4_5⟩) ?r1_4_5
      case h1_4_5 => (intro wt hSw; clear hSw; go_simp; try with_reducible rfl)
      simp only [Act.put, List.setIfInBounds_toArray, List.set_cons_zero, List.set_cons_succ]
      refine wpAnyG_take' (i := 5) (oi := { dst := some 24, op := Go.Op.fieldAddr 38 (Go.Operand.tmp 23) 1, type := 0, pos := "link.go:73", after := #[{ on := 4, ground := Go.Ground.data }], guard := none }) (v := ?v1_5_6) rfl (by kernel_rfl) (by kernel_rfl) (by kernel_rfl) (fun _ _ _ h => h) (Or.inl ⟨by kernel_rfl, ?h1_5_6⟩) ?r1_5_6
      case h1_5_6 => (intro wt hSw; clear hSw; go_simp; try with_reducible rfl)
      simp only [Act.put, List.setIfInBounds_toArray, List.set_cons_zero, List.set_cons_succ]
      refine wpAnyG_take' (i := 6) (oi := { dst := some 25, op := Go.Op.fieldAddr 30 (Go.Operand.tmp 24) 0, type := 0, pos := "link.go:73", after := #[{ on := 5, ground := Go.Ground.data }], guard := none }) (v := ?v1_6_7) rfl (by kernel_rfl) (by kernel_rfl) (by kernel_rfl) (fun _ _ _ h => h) (Or.inl ⟨by kernel_rfl, ?h1_6_7⟩) ?r1_6_7
      case h1_6_7 => (intro wt hSw; clear hSw; go_simp; try with_reducible rfl)
      simp only [Act.put, List.setIfInBounds_toArray, List.set_cons_zero, List.set_cons_succ]
      refine wpAnyG_take (i := 7) (oi := { dst := some 26, op := Go.Op.load 22 (Go.Operand.tmp 25), type := 22, pos := "link.go:73", after := #[{ on := 6, ground := Go.Ground.data }], guard := none }) (v := .int .u64 t) (by kernel_rfl) rfl (by kernel_rfl) (by kernel_rfl) (by kernel_rfl) (by kernel_rfl) (fun _ _ _ h => h) (Or.inl ⟨by kernel_rfl, ?h1_7_8⟩) (by assumption) ?r1_7_8
      case h1_7_8 => (intro wt hSw; (try dsimp only at hSw); go_simp; try with_reducible rfl)
      simp only [Act.put, List.setIfInBounds_toArray, List.set_cons_zero, List.set_cons_succ]
      refine wpAnyG_all (rs := [8, 12]) (by kernel_rfl) (by simp) ?_
      intro i hi
      simp only [List.mem_cons, List.not_mem_nil, or_false] at hi
      rcases hi with rfl | rfl
      · refine wpOpG_of (o := { dst := some 27, op := Go.Op.call { callee := Go.Callee.value (Go.Operand.func 31), args := #[Go.Operand.tmp 21, Go.Operand.tmp 26], argTypes := #[90, 22] }, type := 88, pos := "link.go:73", after := #[{ on := 2, ground := Go.Ground.data }, { on := 7, ground := Go.Ground.data }], guard := none }) rfl (by kernel_rfl) ?_
        refine step_callxi (f := 31) (args := #[pt p 13, .int .u64 t]) (by first | kernel_rfl | go_simp) (HD.out _ (below_drewN (Below.refl _ _) 1)) ?_
        rintro v7 w7 ⟨x, ok, rfl, hx1, hC⟩
        refine ⟨fun h => absurd (by simp) h, ?_⟩
        simp only [Act.put, List.setIfInBounds_toArray, List.set_cons_zero, List.set_cons_succ]
        refine wpAnyG_take' (i := 9) (oi := { dst := some 18, op := Go.Op.move (Go.Operand.tmp 27), type := 88, pos := "link.go:73", after := #[{ on := 8, ground := Go.Ground.data }], guard := none }) (v := ?v1_9_9) rfl (by kernel_rfl) (by kernel_rfl) (by kernel_rfl) (fun _ _ _ h => h) (Or.inl ⟨by kernel_rfl, ?h1_9_9⟩) ?r1_9_9
        case h1_9_9 => (intro wt hSw; clear hSw; go_simp; try with_reducible rfl)
        simp only [Act.put, List.setIfInBounds_toArray, List.set_cons_zero, List.set_cons_succ]
        refine wpAnyG_take' (i := 10) (oi := { dst := some 28, op := Go.Op.extract (Go.Operand.tmp 18) 0, type := 87, pos := "link.go:73", after := #[{ on := 9, ground := Go.Ground.data }], guard := none }) (v := .agg (icells x).toArray) rfl (by kernel_rfl) (by kernel_rfl) (by kernel_rfl) (fun _ _ _ h => h) (Or.inl ⟨by kernel_rfl, ?h1_10_10⟩) ?r1_10_10
        case h1_10_10 => (intro wt hSw; clear hSw; rfl)
        simp only [Act.put, List.setIfInBounds_toArray, List.set_cons_zero, List.set_cons_succ]
        refine wpAnyG_take' (i := 11) (oi := { dst := some 29, op := Go.Op.extract (Go.Operand.tmp 18) 1, type := 4, pos := "link.go:73", after := #[{ on := 9, ground := Go.Ground.data }, { on := 13, ground := Go.Ground.gcOnly Go.Departure.lateStores }], guard := none }) (v := .bool ok) rfl (by kernel_rfl) (by kernel_rfl) (by kernel_rfl) (fun _ _ _ h => h) (Or.inl ⟨by kernel_rfl, ?h1_11_11⟩) ?r1_11_11
        case h1_11_11 => (intro wt hSw; clear hSw; rfl)
        simp only [Act.put, List.setIfInBounds_toArray, List.set_cons_zero, List.set_cons_succ]
        refine wpAnyG_one (i := 12) (o := { dst := some 4, op := Go.Op.alloc 87, type := 0, pos := "link.go:73", after := #[], guard := none }) rfl (by kernel_rfl) (by kernel_rfl) ?_
        refine step_allocI_i (n := w7.heap.size) rfl rfl ?_
        refine ⟨fun _ h => cell_kept (below_new _ _) h, ?_⟩
        simp only [Act.put, List.setIfInBounds_toArray, List.set_cons_zero, List.set_cons_succ]
        refine wpAnyG_one (i := 13) (o := { dst := none, op := Go.Op.store 87 (Go.Operand.tmp 4) (Go.Operand.tmp 28), type := 0, pos := "link.go:73", after := #[{ on := 12, ground := Go.Ground.data }, { on := 10, ground := Go.Ground.data }, { on := 8, ground := Go.Ground.chain }, { on := 0, ground := Go.Ground.phase }, { on := 1, ground := Go.Ground.phase }, { on := 2, ground := Go.Ground.phase }, { on := 3, ground := Go.Ground.phase }, { on := 4, ground := Go.Ground.phase }, { on := 5, ground := Go.Ground.phase }, { on := 6, ground := Go.Ground.phase }, { on := 7, ground := Go.Ground.phase }, { on := 8, ground := Go.Ground.phase }, { on := 9, ground := Go.Ground.phase }, { on := 10, ground := Go.Ground.phase }, { on := 11, ground := Go.Ground.textOnly Go.Departure.lateStores }, { on := 12, ground := Go.Ground.phase }], guard := none }) rfl (by kernel_rfl) (by kernel_rfl) ?_
        obtain ⟨hT, hR⟩ := dueR_twoi HMr.out (below_drewN (Below.refl _ _) 1) hC (below_new w7 _) (Row.new w7 (icells zIi) 87) (Nat.le_refl _)
        refine step_storeI_i (it := x) (b := w7.heap.size) (j := 0) rfl rfl rfl hT hx1 ?_
        refine ⟨fun h => absurd (by simp) h, ?_⟩
        simp only [Act.put]
        refine wpAnyG_take' (i := 14) (oi := { dst := some 5, op := Go.Op.assign (Go.Operand.tmp 29), type := 4, pos := "link.go:73", after := #[{ on := 11, ground := Go.Ground.data }, { on := 13, ground := Go.Ground.chain }, { on := 0, ground := Go.Ground.phase }, { on := 1, ground := Go.Ground.phase }, { on := 2, ground := Go.Ground.phase }, { on := 3, ground := Go.Ground.phase }, { on := 4, ground := Go.Ground.phase }, { on := 5, ground := Go.Ground.phase }, { on := 6, ground := Go.Ground.phase }, { on := 7, ground := Go.Ground.phase }, { on := 8, ground := Go.Ground.phase }, { on := 9, ground := Go.Ground.phase }, { on := 10, ground := Go.Ground.phase }, { on := 11, ground := Go.Ground.phase }, { on := 12, ground := Go.Ground.phase }, { on := 13, ground := Go.Ground.phase }], guard := none }) (v := .bool ok) rfl (by kernel_rfl) (by kernel_rfl) (by kernel_rfl) (fun _ _ _ h => h) (Or.inl ⟨by kernel_rfl, ?h1_14_12⟩) ?r1_14_12
        case h1_14_12 => (intro wt hSw; clear hSw; go_simp; try with_reducible rfl)
        simp only [Act.put, List.setIfInBounds_toArray, List.set_cons_zero, List.set_cons_succ]
        refine wpAnyG_done (by kernel_rfl) ?_ _
        clear hHeld HD
        go_wp2_with fail
        go_meet
        exact hR
      · refine wpOpG_of (o := { dst := some 4, op := Go.Op.alloc 87, type := 0, pos := "link.go:73", after := #[], guard := none }) rfl (by kernel_rfl) ?_
        refine step_allocI_i (n := wr.heap.size) rfl rfl ?_
        refine ⟨fun _ h => cell_kept (below_new _ _) h, ?_⟩
        simp only [Act.put, List.setIfInBounds_toArray, List.set_cons_zero, List.set_cons_succ]
        refine wpAnyG_one (i := 8) (o := { dst := some 27, op := Go.Op.call { callee := Go.Callee.value (Go.Operand.func 31), args := #[Go.Operand.tmp 21, Go.Operand.tmp 26], argTypes := #[90, 22] }, type := 88, pos := "link.go:73", after := #[{ on := 2, ground := Go.Ground.data }, { on := 7, ground := Go.Ground.data }], guard := none }) rfl (by kernel_rfl) (by kernel_rfl) ?_
        refine step_callxi (f := 31) (args := #[pt p 13, .int .u64 t]) (by first | kernel_rfl | go_simp) (HD.out _ (Below.alloc (below_drewN (Below.refl _ _) 1) (Nat.le_refl _) _)) ?_
        rintro v7 w7 ⟨x, ok, rfl, hx1, hC⟩
        refine ⟨fun h => absurd (by simp) h, ?_⟩
        simp only [Act.put, List.setIfInBounds_toArray, List.set_cons_zero, List.set_cons_succ]
        refine wpAnyG_take' (i := 9) (oi := { dst := some 18, op := Go.Op.move (Go.Operand.tmp 27), type := 88, pos := "link.go:73", after := #[{ on := 8, ground := Go.Ground.data }], guard := none }) (v := ?v1_9_13) rfl (by kernel_rfl) (by kernel_rfl) (by kernel_rfl) (fun _ _ _ h => h) (Or.inl ⟨by kernel_rfl, ?h1_9_13⟩) ?r1_9_13
        case h1_9_13 => (intro wt hSw; clear hSw; go_simp; try with_reducible rfl)
        simp only [Act.put, List.setIfInBounds_toArray, List.set_cons_zero, List.set_cons_succ]
        refine wpAnyG_take' (i := 10) (oi := { dst := some 28, op := Go.Op.extract (Go.Operand.tmp 18) 0, type := 87, pos := "link.go:73", after := #[{ on := 9, ground := Go.Ground.data }], guard := none }) (v := .agg (icells x).toArray) rfl (by kernel_rfl) (by kernel_rfl) (by kernel_rfl) (fun _ _ _ h => h) (Or.inl ⟨by kernel_rfl, ?h1_10_14⟩) ?r1_10_14
        case h1_10_14 => (intro wt hSw; clear hSw; rfl)
        simp only [Act.put, List.setIfInBounds_toArray, List.set_cons_zero, List.set_cons_succ]
        refine wpAnyG_take' (i := 11) (oi := { dst := some 29, op := Go.Op.extract (Go.Operand.tmp 18) 1, type := 4, pos := "link.go:73", after := #[{ on := 9, ground := Go.Ground.data }, { on := 13, ground := Go.Ground.gcOnly Go.Departure.lateStores }], guard := none }) (v := .bool ok) rfl (by kernel_rfl) (by kernel_rfl) (by kernel_rfl) (fun _ _ _ h => h) (Or.inl ⟨by kernel_rfl, ?h1_11_15⟩) ?r1_11_15
        case h1_11_15 => (intro wt hSw; clear hSw; rfl)
        simp only [Act.put, List.setIfInBounds_toArray, List.set_cons_zero, List.set_cons_succ]
        refine wpAnyG_one (i := 13) (o := { dst := none, op := Go.Op.store 87 (Go.Operand.tmp 4) (Go.Operand.tmp 28), type := 0, pos := "link.go:73", after := #[{ on := 12, ground := Go.Ground.data }, { on := 10, ground := Go.Ground.data }, { on := 8, ground := Go.Ground.chain }, { on := 0, ground := Go.Ground.phase }, { on := 1, ground := Go.Ground.phase }, { on := 2, ground := Go.Ground.phase }, { on := 3, ground := Go.Ground.phase }, { on := 4, ground := Go.Ground.phase }, { on := 5, ground := Go.Ground.phase }, { on := 6, ground := Go.Ground.phase }, { on := 7, ground := Go.Ground.phase }, { on := 8, ground := Go.Ground.phase }, { on := 9, ground := Go.Ground.phase }, { on := 10, ground := Go.Ground.phase }, { on := 11, ground := Go.Ground.textOnly Go.Departure.lateStores }, { on := 12, ground := Go.Ground.phase }], guard := none }) rfl (by kernel_rfl) (by kernel_rfl) ?_
        obtain ⟨hT, hR⟩ := dueR_onei (w := wr) (b := wr.heap.size) HMr.out (Below.alloc (below_drewN (Below.refl _ _) 1) (Nat.le_refl _) _) (Row.new wr.drew (icells zIi) 87) (Nat.le_refl _) hC
        refine step_storeI_i (it := x) (b := wr.heap.size) (j := 0) rfl rfl rfl hT hx1 ?_
        refine ⟨fun h => absurd (by simp) h, ?_⟩
        simp only [Act.put]
        refine wpAnyG_take' (i := 14) (oi := { dst := some 5, op := Go.Op.assign (Go.Operand.tmp 29), type := 4, pos := "link.go:73", after := #[{ on := 11, ground := Go.Ground.data }, { on := 13, ground := Go.Ground.chain }, { on := 0, ground := Go.Ground.phase }, { on := 1, ground := Go.Ground.phase }, { on := 2, ground := Go.Ground.phase }, { on := 3, ground := Go.Ground.phase }, { on := 4, ground := Go.Ground.phase }, { on := 5, ground := Go.Ground.phase }, { on := 6, ground := Go.Ground.phase }, { on := 7, ground := Go.Ground.phase }, { on := 8, ground := Go.Ground.phase }, { on := 9, ground := Go.Ground.phase }, { on := 10, ground := Go.Ground.phase }, { on := 11, ground := Go.Ground.phase }, { on := 12, ground := Go.Ground.phase }, { on := 13, ground := Go.Ground.phase }], guard := none }) (v := .bool ok) rfl (by kernel_rfl) (by kernel_rfl) (by kernel_rfl) (fun _ _ _ h => h) (Or.inl ⟨by kernel_rfl, ?h1_14_16⟩) ?r1_14_16
        case h1_14_16 => (intro wt hSw; clear hSw; go_simp; try with_reducible rfl)
        simp only [Act.put, List.setIfInBounds_toArray, List.set_cons_zero, List.set_cons_succ]
        refine wpAnyG_done (by kernel_rfl) ?_ _
        clear hHeld HD
        go_wp2_with fail
        go_meet
        exact hR
    case rest =>
      obtain ⟨b, x, ok, rfl, rfl, hb, hR, hC⟩ := hcut
      rcases hC with ⟨rfl, hx0, hxt, v', L', e1, e2, e3, e4, e5⟩ | ⟨rfl, -, hy, hB⟩
      · obtain ⟨m, hm, hmp⟩ := HI.out.wt x (List.mem_of_getElem? hx0)
        have hbp : p ≠ b := fun e => by have := HL.out.at_.row.lt; omega
        have M1 : Lm p Kr wr { Kr with S := L', sv := v' } wc := HL.out.at_.turnS e1 e3 e4 (fun g e => .inl (e5 ▸ e))
        have hwm : m ≤ Kr.wait := by
          have h1 := sumW_perm e2
          have h2 : 0 ≤ sumW L' := sumW_nonneg (fun y hy => HI.out.wt y (e2.mem_iff.1 (by simp [hy])))
          have h3 := HI.out.wait
          simp only [sumW, hm] at h1
          have h4 : intOf (Value.int .i64 m) = m := rfl
          rw [h4] at h1
          omega
        have hw2 := HI.out.le
        have c11 := M1.at_.row.cell 11 _ rfl
        have f11 := M1.at_.row.frozen 11
        have b2 := hR.cell 2 _ rfl
        rw [hm] at b2
        have M2 : Lm p Kr wr { Kr with S := L', sv := v', wait := Kr.wait - m } (wc.drew.setCell ⟨p, 11, none⟩ (.int .i64 (Kr.wait - m))) := (M1.below (below_drewN (Below.refl _ _) 1)).trans ((M1.below (below_drewN (Below.refl _ _) 1)).at_.set 11 _ rfl (by decide) (by decide) rfl rfl rfl rfl rfl rfl rfl rfl rfl)
        have HM2 := hid (HL.out.trans M2)
        have HI2 := hid (HI.out.step hxt e2 hm (v' := v'))
        have HLN := hid (show L'.length < Kr.S.length by have := e2.length_eq; simp at this; omega)
        clear M1 M2 e1 e2 e3 e4 e5 HL HI hx0 HMr HD hR
        go_wp2_with fail
        go_upto_region 3 with fail
        go_region
        go_wp2_with fail
        go_roundw
        case rel => exact ⟨_, HM2.out, HI2.out⟩
        case measure =>
          have h1 := lenAt_of HM2.out.at_
          rw [HLA.out]
          exact Nat.lt_of_le_of_lt (Nat.le_of_eq h1) HLN.out
      · clear HMr HD
        go_wp2_with fail
        refine bodyPost_ret (results_none Try.results20 _ _ _) rfl ?_
        exact ⟨rfl, HE2.out _ _ (HL.out.below hB) HI.out hy⟩
end Go.Proofs.Ytoeldomhkeancaa
