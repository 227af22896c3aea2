import Derived.Test.YtoeldomhkeancaaMe0
namespace Go.Proofs.Ytoeldomhkeancaa
open Go.RowKit Go.Maps
set_option maxRecDepth 100000

/-- How long so many bytes are sent. -/
def takesE (r n : Int) : Int := if r = 0 then 0 else (n * 1000000 + r - 1) / r
theorem takes_le {r n : Int} (hr : 0 ≤ r) (hn : 0 ≤ n) : 0 ≤ takesE r n ∧ takesE r n ≤ n * 1000000 := by
  unfold takesE
  split
  · omega
  · have hr1 : 0 < r := by omega
    refine ⟨Int.ediv_nonneg (by omega) hr, ?_⟩
    by_cases hn0 : n = 0
    · subst hn0
      rw [Int.ediv_eq_zero_of_lt (by omega) (by omega)]
      omega
    · have h1 : n * 1000000 + r - 1 < (n * 1000000 + 1) * r := by
        have h2 : n * 1000000 + 1 ≤ (n * 1000000 + 1) * r := by
          have := Int.mul_le_mul_of_nonneg_left (show (1 : Int) ≤ r by omega) (show (0 : Int) ≤ n * 1000000 + 1 by omega)
          omega
        have h3 : (n * 1000000 + 1) * r = n * 1000000 * r + r := by rw [Int.add_mul]; omega
        have h4 : n * 1000000 ≤ n * 1000000 * r := by
          have := Int.mul_le_mul_of_nonneg_left (show (1 : Int) ≤ r by omega) (show (0 : Int) ≤ n * 1000000 by omega)
          omega
        omega
      have h5 := Int.ediv_lt_of_lt_mul hr1 h1
      omega
set_option maxHeartbeats 1000000 in
theorem takes_any {w : World} {p : Nat} {K : Lk} (h : LkAt w p K) (hk : K.Ok) {n : Nat} (hn : n ≤ 1073741824) :
    Calls Try.prog 32 #[pt p 0, .int .i64 n] w fun e w' => e = .returned (.int .u64 (takesE K.rate n)) ∧ w' = w := by
  have c0 := h.row.cell 0 _ rfl
  have r0 := hk.r0
  have r1 := hk.r1
  have hni : (n : Int) ≤ 1073741824 := by omega
  have hn0 : (0 : Int) ≤ (n : Int) := by omega
  clear h hk hn
  generalize K.rate = r at *
  generalize (n : Int) = m at *
  by_cases hr : r = 0
  · subst hr
    go_enter Try.func32, Try.ntmps32
    go_wp2
    go_ret
    exact ⟨rfl, rfl⟩
  · have HE : Hid (takesE r m = (m * 1000000 + r - 1).tdiv r) := by
      show _ = _
      unfold takesE
      rw [if_neg hr, Int.tdiv_eq_ediv_of_nonneg (by omega)]
    have HT := hid (takes_le r0 hn0)
    have e1 : (m * 1000000 + r - 1).tdiv r = takesE r m := HE.out.symm
    have b1 : 0 ≤ takesE r m := HT.out.1
    have b2 : takesE r m ≤ 1073741824000000 := by have := HT.out.2; omega
    clear HE HT
    generalize takesE r m = T at *
    go_enter Try.func32, Try.ntmps32
    go_wp2
    go_ret
    exact ⟨rfl, rfl⟩
/-- When a frame's sending is over. -/
def overE (K : Lk) (n : Nat) : Int := max K.now K.busy + takesE K.rate n
/-- Does it wait? -/
def Waits (K : Lk) (n : Nat) : Prop := K.now < overE K n ∧ 0 < n
instance (K : Lk) (n : Nat) : Decidable (Waits K n) := by unfold Waits; infer_instance
theorem BytesAt.fr {S : Nat → Prop} {w w' : World} {a : Option Addr} {bs : List (BitVec 8)} (h : BytesAt w a bs) (hf : Fr S w w') (hs : ∀ ad, a = some ad → bs ≠ [] → ¬ S ad.block) : BytesAt w' a bs := fun k hk => by
  obtain ⟨g, o, e, hc⟩ := h k hk
  exact ⟨g, o, e, hf.cell hc (show ¬ S g from hs _ e (fun h => by rw [h] at hk; simp at hk))⟩
/-- What a sending does. -/
structure SendE (K : Lk) (num : Int) (bs : List (BitVec 8)) (K' : Lk) : Prop where
  eq : K' = { K with busy := overE K bs.length, S := K'.S, sv := K'.sv, wait := K'.wait, Fl := K'.Fl, fv := K'.fv, D := fun k => if k = num then bs else K.D k }
  S : K'.S.Perm (K.S ++ if Waits K bs.length then [⟨overE K bs.length, num, .int .i64 (bs.length : Int)⟩] else [])
  wait : K'.wait = K.wait + if Waits K bs.length then (bs.length : Int) else 0
  Fl : ∃ v, K'.Fl.Perm (K.Fl ++ [⟨overE K bs.length + K.delay + jitE K num, num, v⟩])
theorem jit_bd {K : Lk} (hk : K.Ok) (num : Int) : 0 ≤ jitE K num ∧ jitE K num ≤ 1099511627776 := by
  unfold jitE
  cases h : K.jit[(num % (K.jit.length : Int)).toNat]? with
  | none => simp
  | some x => exact hk.jt x (List.mem_of_getElem? h)
theorem over_bd {K : Lk} (hk : K.Ok) {n : Nat} (hn : K.wait + n ≤ K.queue) : 0 ≤ overE K n ∧ overE K n ≤ 4613937818241073152 := by
  have h1 := takes_le (n := (n : Int)) hk.r0 (by omega)
  have h2 := hk.busy K.now (Int.le_refl _)
  have h3 := sumW_le (t := K.now) hk.wt
  have h4 := hk.wait
  have h5 := hk.q1
  have h6 := hk.now0
  have h7 := hk.now1
  have h8 := hk.busy0
  have h9 := sumW_nonneg hk.wt
  unfold overE
  generalize takesE K.rate n = T at *
  omega
/-- The frame flies. -/
theorem send_last {w1 w8 w9 : World} {p m : Nat} {K KT : Lk} {num T : Int} {bs : List (BitVec 8)} {v8 fv' : Value} {L9 : List (It Value)} (hL : Lm p K w1 KT w8) (hO : OwnBy w8 m v8 bs) (hF : KT.Fl = K.Fl) (hD : KT.D = K.D) (hm : w1.heap.size ≤ m) (hK : ∀ x ∈ K.Fl, ∀ g, x.what.ownBlock = some g → g < w1.heap.size) (hnum : ∀ y ∈ K.Fl, y.num ≠ num)
    (e1 : HMb w9 p 14 (KT.cells.set 14 fv') fv' L9) (e2 : L9.Perm (K.Fl ++ [⟨T, num, v8⟩])) (e3 : Hp L9.length (kat L9)) (e4 : Fr (fun j => j = p ∨ KT.fv.ownBlock = some j) w8 w9) (e5 : ∀ g, fv'.ownBlock = some g → KT.fv.ownBlock = some g ∨ w8.heap.size ≤ g) :
    Lm p K w1 { KT with Fl := L9, fv := fv', D := fun k => if k = num then bs else K.D k } w9 := by
  refine hL.trans (hL.at_.turnF e1 e3 e4 e5 (fun x hx => ?_) ?_)
  · rcases List.mem_append.1 (e2.mem_iff.1 hx) with h | h
    · have h1 := hL.at_.by_ x (hF ▸ h)
      rw [hD] at h1
      rw [if_neg (hnum x h)]
      exact h1
    · simp at h
      subst h
      rw [if_pos rfl]
      exact own_less hO (Nat.zero_le _)
  · refine Sep.perm ?_ e2.symm
    have hs := hL.at_.sep
    rw [hF] at hs
    refine List.pairwise_append.2 ⟨hs, by simp, fun x hx y hy => ?_⟩
    simp at hy
    subst hy
    intro g e e'
    have h1 := hK x hx g e
    have h2 := own_ge hO e'
    omega
set_option maxHeartbeats 8000000 in
/-- A frame for which there is room is sent. -/
theorem send_any {w : World} {p : Nat} {K : Lk} (h : LkAt w p K) (hk : K.Ok) {num : Int} (h0 : 0 ≤ num) {a : Option Addr} {n cap : Nat} {bs : List (BitVec 8)} (hB : BytesAt w a bs) (hn : bs.length = n) (hroom : K.wait + n ≤ K.queue) (hfl : K.Fl.length ≤ 2932031007402) (hnum : ∀ y ∈ K.Fl, y.num ≠ num) (hgs : ∀ ad, a = some ad → bs ≠ [] → ad.block < w.heap.size ∧ ¬ Foot p K ad.block) :
    Calls Try.prog 23 #[pt p 0, .int .u64 num, .slice a n cap] w fun e w' => e = .returned (.tuple #[]) ∧ ∃ K', Lm p K w K' w' ∧ SendE K num bs K' := by
  have hb1 := below_new w (.cells #[pt p 0] 24)
  have RB := Row.new w [pt p 0] 24
  have h1 := h.below hb1
  have hB1 := hB.kept hb1
  have hml := hid (fun k hk => h.lt hk : ∀ k, Mem p K k → k < w.heap.size)
  have w0 : 0 ≤ K.wait := by rw [hk.wait]; exact sumW_nonneg hk.wt
  have hq1 := hk.q1
  have hni : (n : Int) ≤ 1073741824 := by omega
  have hn0 : (0 : Int) ≤ (n : Int) := by omega
  have hob := over_bd hk hroom
  have hT := takes_le (n := (n : Int)) hk.r0 hn0
  have HK := hid hk
  have d0 := hk.d0
  have d1 := hk.d1
  have j0 := (jit_bd hk num).1
  have j1 := (jit_bd hk num).2
  have n0 := hk.now0
  have b0 := hk.busy0
  subst hn
  have HFIN : Hid (∀ K' , SendE K num bs K' → SendE K num bs K') := fun _ h => h
  clear h hB hk
  go_enter Try.func23, Try.ntmps23
  go_upto_region 1 with fail
  revert hb1 RB h1 hB1
  generalize w.alloc (.cells #[pt p 0] 24) = w1
  intro hb1 RB h1 hB1
  obtain ⟨b, hb⟩ : ∃ b, w.heap.size = b := ⟨_, rfl⟩
  rw [hb] at RB ⊢
  have cb := RB.cell 0 _ rfl
  have c5 := h1.row.cell 5 _ rfl
  have c6 := h1.row.cell 6 _ rfl
  have f6 := h1.row.frozen 6
  have HTK : Hid (∀ w', w' = w1.drew → Calls Try.prog 32 #[pt p 0, .int .i64 (bs.length : Int)] w' fun e w2 => ∃ v, e = .returned v ∧ (v = .int .u64 (takesE K.rate bs.length) ∧ w2 = w')) := fun w' e => by
    subst e
    exact (takes_any (h1.below (below_drewN (Below.refl _ _) 1)) HK.out (by omega)).mono fun e w2 ⟨h1, h2⟩ => ⟨_, h1, rfl, h2⟩
  obtain ⟨o, ho⟩ : ∃ o, overE K bs.length = o := ⟨_, rfl⟩
  have ho' : max K.now K.busy + takesE K.rate bs.length = o := ho
  rw [ho] at hob
  obtain ⟨hob0, hob1⟩ := hob
  obtain ⟨T0, T1⟩ := hT
  have HRB := hid RB
  have HH1 := hid h1
  have HBB := hid hB1
  have HB1 := hid hb1
  have HBS := hid hb
  have HO := hid ho
  clear RB h1 hB1 hb1 hb ho HFIN
  refine wp_region_some (fun w' => w' = w1.drew) [] (by kernel_rfl) ?_
  have hHeld := (show (fun w' => w' = w1.drew) w1.drew from rfl)
  refine wpAnyG_take (i := 0) (oi := { dst := some 8, op := Go.Op.load 24 (Go.Operand.tmp 3), type := 24, pos := "link.go:92", after := #[], guard := none }) (v := ?v1_0) (by kernel_rfl) rfl (by kernel_rfl) (by kernel_rfl) (by kernel_rfl) (by kernel_rfl) (fun _ _ _ h => h) (Or.inl ⟨by kernel_rfl, ?h1_0⟩) (by assumption) ?r1_0
  case h1_0 => (intro wt hSw; (try dsimp only at hSw); subst hSw; go_simp; try rfl)
  simp only [Act.put, List.setIfInBounds_toArray, List.set_cons_zero, List.set_cons_succ]
  refine wpAnyG_take' (i := 1) (oi := { dst := some 9, op := Go.Op.nilCheck (Go.Operand.tmp 8), type := 0, pos := "link.go:92", after := #[{ on := 0, ground := Go.Ground.data }], guard := none }) (v := ?v1_1) rfl (by kernel_rfl) (by kernel_rfl) (by kernel_rfl) (fun _ _ _ h => h) (Or.inl ⟨by kernel_rfl, ?h1_1⟩) ?r1_1
  case h1_1 => (intro wt hSw; clear hSw; go_simp; try with_reducible rfl)
  simp only [Act.put, List.setIfInBounds_toArray, List.set_cons_zero, List.set_cons_succ]
  refine wpAnyG_take' (i := 2) (oi := { dst := some 10, op := Go.Op.fieldAddr 38 (Go.Operand.tmp 9) 1, type := 0, pos := "link.go:92", after := #[{ on := 1, ground := Go.Ground.data }], guard := none }) (v := ?v1_2) rfl (by kernel_rfl) (by kernel_rfl) (by kernel_rfl) (fun _ _ _ h => h) (Or.inl ⟨by kernel_rfl, ?h1_2⟩) ?r1_2
  case h1_2 => (intro wt hSw; clear hSw; go_simp; try with_reducible rfl)
  simp only [Act.put, List.setIfInBounds_toArray, List.set_cons_zero, List.set_cons_succ]
  refine wpAnyG_take' (i := 3) (oi := { dst := some 11, op := Go.Op.fieldAddr 30 (Go.Operand.tmp 10) 0, type := 0, pos := "link.go:92", after := #[{ on := 2, ground := Go.Ground.data }], guard := none }) (v := ?v1_3) rfl (by kernel_rfl) (by kernel_rfl) (by kernel_rfl) (fun _ _ _ h => h) (Or.inl ⟨by kernel_rfl, ?h1_3⟩) ?r1_3
  case h1_3 => (intro wt hSw; clear hSw; go_simp; try with_reducible rfl)
  simp only [Act.put, List.setIfInBounds_toArray, List.set_cons_zero, List.set_cons_succ]
  refine wpAnyG_take (i := 4) (oi := { dst := some 12, op := Go.Op.load 22 (Go.Operand.tmp 11), type := 22, pos := "link.go:92", after := #[{ on := 3, ground := Go.Ground.data }], guard := none }) (v := ?v1_4) (by kernel_rfl) rfl (by kernel_rfl) (by kernel_rfl) (by kernel_rfl) (by kernel_rfl) (fun _ _ _ h => h) (Or.inl ⟨by kernel_rfl, ?h1_4⟩) (by assumption) ?r1_4
  case h1_4 => (intro wt hSw; (try dsimp only at hSw); subst hSw; go_simp; try rfl)
  simp only [Act.put, List.setIfInBounds_toArray, List.set_cons_zero, List.set_cons_succ]
  refine wpAnyG_take (i := 5) (oi := { dst := some 13, op := Go.Op.load 24 (Go.Operand.tmp 3), type := 24, pos := "link.go:92", after := #[], guard := none }) (v := ?v1_5) (by kernel_rfl) rfl (by kernel_rfl) (by kernel_rfl) (by kernel_rfl) (by kernel_rfl) (fun _ _ _ h => h) (Or.inl ⟨by kernel_rfl, ?h1_5⟩) (by assumption) ?r1_5
  case h1_5 => (intro wt hSw; (try dsimp only at hSw); subst hSw; go_simp; try rfl)
  simp only [Act.put, List.setIfInBounds_toArray, List.set_cons_zero, List.set_cons_succ]
  refine wpAnyG_take' (i := 6) (oi := { dst := some 14, op := Go.Op.nilCheck (Go.Operand.tmp 13), type := 0, pos := "link.go:92", after := #[{ on := 5, ground := Go.Ground.data }], guard := none }) (v := ?v1_6) rfl (by kernel_rfl) (by kernel_rfl) (by kernel_rfl) (fun _ _ _ h => h) (Or.inl ⟨by kernel_rfl, ?h1_6⟩) ?r1_6
  case h1_6 => (intro wt hSw; clear hSw; go_simp; try with_reducible rfl)
  simp only [Act.put, List.setIfInBounds_toArray, List.set_cons_zero, List.set_cons_succ]
  refine wpAnyG_take' (i := 7) (oi := { dst := some 15, op := Go.Op.fieldAddr 38 (Go.Operand.tmp 14) 1, type := 0, pos := "link.go:92", after := #[{ on := 6, ground := Go.Ground.data }], guard := none }) (v := ?v1_7) rfl (by kernel_rfl) (by kernel_rfl) (by kernel_rfl) (fun _ _ _ h => h) (Or.inl ⟨by kernel_rfl, ?h1_7⟩) ?r1_7
  case h1_7 => (intro wt hSw; clear hSw; go_simp; try with_reducible rfl)
  simp only [Act.put, List.setIfInBounds_toArray, List.set_cons_zero, List.set_cons_succ]
  refine wpAnyG_take' (i := 8) (oi := { dst := some 16, op := Go.Op.fieldAddr 30 (Go.Operand.tmp 15) 1, type := 0, pos := "link.go:92", after := #[{ on := 7, ground := Go.Ground.data }], guard := none }) (v := ?v1_8) rfl (by kernel_rfl) (by kernel_rfl) (by kernel_rfl) (fun _ _ _ h => h) (Or.inl ⟨by kernel_rfl, ?h1_8⟩) ?r1_8
  case h1_8 => (intro wt hSw; clear hSw; go_simp; try with_reducible rfl)
  simp only [Act.put, List.setIfInBounds_toArray, List.set_cons_zero, List.set_cons_succ]
  refine wpAnyG_take (i := 9) (oi := { dst := some 17, op := Go.Op.load 22 (Go.Operand.tmp 16), type := 22, pos := "link.go:92", after := #[{ on := 8, ground := Go.Ground.data }], guard := none }) (v := ?v1_9) (by kernel_rfl) rfl (by kernel_rfl) (by kernel_rfl) (by kernel_rfl) (by kernel_rfl) (fun _ _ _ h => h) (Or.inl ⟨by kernel_rfl, ?h1_9⟩) (by assumption) ?r1_9
  case h1_9 => (intro wt hSw; (try dsimp only at hSw); subst hSw; go_simp; try rfl)
  simp only [Act.put, List.setIfInBounds_toArray, List.set_cons_zero, List.set_cons_succ]
  refine wpAnyG_take' (i := 10) (oi := { dst := some 18, op := Go.Op.call { callee := Go.Callee.builtin Go.Builtin.max, args := #[Go.Operand.tmp 12, Go.Operand.tmp 17], argTypes := #[22, 22] }, type := 22, pos := "link.go:92", after := #[{ on := 4, ground := Go.Ground.data }, { on := 9, ground := Go.Ground.data }], guard := none }) (v := .int .u64 (max K.now K.busy)) rfl (by kernel_rfl) (by kernel_rfl) (by kernel_rfl) (fun _ _ _ h => h) (Or.inl ⟨by kernel_rfl, ?h1_10⟩) ?r1_10
  case h1_10 => (intro wt hSw; clear hSw; go_simp; try with_reducible rfl)
  simp only [Act.put, List.setIfInBounds_toArray, List.set_cons_zero, List.set_cons_succ]
  refine wpAnyG_take (i := 11) (oi := { dst := some 19, op := Go.Op.load 24 (Go.Operand.tmp 3), type := 24, pos := "link.go:92", after := #[], guard := none }) (v := ?v1_11) (by kernel_rfl) rfl (by kernel_rfl) (by kernel_rfl) (by kernel_rfl) (by kernel_rfl) (fun _ _ _ h => h) (Or.inl ⟨by kernel_rfl, ?h1_11⟩) (by assumption) ?r1_11
  case h1_11 => (intro wt hSw; (try dsimp only at hSw); subst hSw; go_simp; try rfl)
  simp only [Act.put, List.setIfInBounds_toArray, List.set_cons_zero, List.set_cons_succ]
  refine wpAnyG_take' (i := 12) (oi := { dst := some 20, op := Go.Op.move (Go.Operand.tmp 2), type := 23, pos := "link.go:92", after := #[], guard := none }) (v := ?v1_12) rfl (by kernel_rfl) (by kernel_rfl) (by kernel_rfl) (fun _ _ _ h => h) (Or.inl ⟨by kernel_rfl, ?h1_12⟩) ?r1_12
  case h1_12 => (intro wt hSw; clear hSw; go_simp; try with_reducible rfl)
  simp only [Act.put, List.setIfInBounds_toArray, List.set_cons_zero, List.set_cons_succ]
  refine wpAnyG_take' (i := 13) (oi := { dst := some 21, op := Go.Op.call { callee := Go.Callee.builtin Go.Builtin.len, args := #[Go.Operand.tmp 20], argTypes := #[23] }, type := 3, pos := "link.go:92", after := #[{ on := 12, ground := Go.Ground.data }], guard := none }) (v := ?v1_13) rfl (by kernel_rfl) (by kernel_rfl) (by kernel_rfl) (fun _ _ _ h => h) (Or.inl ⟨by kernel_rfl, ?h1_13⟩) ?r1_13
  case h1_13 => (intro wt hSw; clear hSw; go_simp; try with_reducible rfl)
  simp only [Act.put, List.setIfInBounds_toArray, List.set_cons_zero, List.set_cons_succ]
  refine wpAnyG_one (i := 14) (o := { dst := some 22, op := Go.Op.call { callee := Go.Callee.value (Go.Operand.func 32), args := #[Go.Operand.tmp 19, Go.Operand.tmp 21], argTypes := #[24, 3] }, type := 22, pos := "link.go:92", after := #[{ on := 11, ground := Go.Ground.data }, { on := 13, ground := Go.Ground.data }], guard := none }) rfl (by kernel_rfl) (by kernel_rfl) ?_
  refine step_callxi (f := 32) (args := #[pt p 0, .int .i64 (bs.length : Int)]) (by first | kernel_rfl | go_simp) (HTK.out _ hHeld) ?_
  rintro v5 w5 ⟨rfl, rfl⟩
  refine ⟨fun _ h => h, ?_⟩
  simp only [Act.put, List.setIfInBounds_toArray, List.set_cons_zero, List.set_cons_succ]
  refine wpAnyG_take' (i := 15) (oi := { dst := some 23, op := Go.Op.binOp Go.BinOp.add 22 (Go.Operand.tmp 18) (Go.Operand.tmp 22) 22, type := 22, pos := "link.go:92", after := #[{ on := 10, ground := Go.Ground.data }, { on := 14, ground := Go.Ground.data }], guard := none }) (v := .int .u64 o) rfl (by kernel_rfl) (by kernel_rfl) (by kernel_rfl) (fun _ _ _ h => h) (Or.inl ⟨by kernel_rfl, ?h1_15⟩) ?r1_15
  case h1_15 => (intro wt hSw; clear hSw; go_simp; rw [IntKind.wrap_u64]; omega)
  simp only [Act.put, List.setIfInBounds_toArray, List.set_cons_zero, List.set_cons_succ]
  refine wpAnyG_take' (i := 16) (oi := { dst := some 6, op := Go.Op.assign (Go.Operand.tmp 23), type := 22, pos := "link.go:92", after := #[{ on := 15, ground := Go.Ground.data }, { on := 14, ground := Go.Ground.chain }, { on := 0, ground := Go.Ground.phase }, { on := 1, ground := Go.Ground.phase }, { on := 2, ground := Go.Ground.phase }, { on := 3, ground := Go.Ground.phase }, { on := 4, ground := Go.Ground.phase }, { on := 5, ground := Go.Ground.phase }, { on := 6, ground := Go.Ground.phase }, { on := 7, ground := Go.Ground.phase }, { on := 8, ground := Go.Ground.phase }, { on := 9, ground := Go.Ground.phase }, { on := 10, ground := Go.Ground.phase }, { on := 11, ground := Go.Ground.phase }, { on := 12, ground := Go.Ground.phase }, { on := 13, ground := Go.Ground.phase }, { on := 14, ground := Go.Ground.phase }, { on := 15, ground := Go.Ground.phase }], guard := none }) (v := .int .u64 o) rfl (by kernel_rfl) (by kernel_rfl) (by kernel_rfl) (fun _ _ _ h => h) (Or.inl ⟨by kernel_rfl, ?h1_16⟩) ?r1_16
  case h1_16 => (intro wt hSw; clear hSw; go_simp; try with_reducible rfl)
  simp only [Act.put, List.setIfInBounds_toArray, List.set_cons_zero, List.set_cons_succ]
  refine wpAnyG_done (by kernel_rfl) ?_ _
  clear hHeld HTK c5 ho' T0 T1
  have M1 : Lm p K w1 { K with busy := o } (w1.setCell ⟨p, 6, none⟩ (.int .u64 o)) := HH1.out.set 6 _ rfl (by decide) (by decide) rfl rfl rfl rfl rfl rfl rfl rfl rfl
  have hpb : b ≠ p := fun e => by have := hml.out p (.inl (.inl rfl)); have := HBS.out; omega
  have HL2 : Hid (Lm p K w1 { K with busy := o } (w1.setCell ⟨p, 6, none⟩ (.int .u64 o)).drew) := M1.below (below_drewN (Below.refl _ _) 1)
  have HFB : Hid (∀ K' w', Lm p K w1 K' w' → Row w' b [pt p 0] 24) := fun K' w' hL => hL.fr.row HRB.out (fun e => by have := hml.out b (.inl e); have := HBS.out; omega)
  have HFY : Hid (∀ K' w', Lm p K w1 K' w' → BytesAt w' a bs) := fun K' w' hL => HBB.out.fr hL.fr (fun ad e h => (hgs ad e h).2)
  have HNEW : Hid (∀ K' w', Lm p K w1 K' w' → w.heap.size ≤ w'.heap.size) := fun K' w' hL => Nat.le_trans HB1.out.size hL.fr.size
  clear M1 HH1 HBB HRB hgs
  have HM0 : Hid (∀ k, Mem p K k → k < b) := fun k hk => by have := hml.out k hk; have := HBS.out; omega
  have HEW : Hid (∀ K' w', Lm p K w1 K' w' → Lm p K w K' w') := fun K' w' hL => Lm.ahead HB1.out hL
  have HKF : Hid (∀ x ∈ K.Fl, ∀ g, x.what.ownBlock = some g → g < w1.heap.size) := fun x hx g e => by have := hml.out g (.inr (.inr (.inr ⟨x, hx, e⟩))); have := HB1.out.size; omega
  clear hml HBS HB1
  go_upto_region 3 with fail
  clear cb c6 f6
  revert HL2
  generalize (w1.setCell ⟨p, 6, none⟩ (.int .u64 o)).drew = w2
  intro HL2
  have cb := (HFB.out _ _ HL2.out).cell 0 _ rfl
  have c5 : w2.cell? ⟨p, 5, none⟩ = some (.int .u64 K.now) := HL2.out.at_.row.cell 5 _ rfl
  by_cases hw : K.now < o
  · by_cases hz : 0 < bs.length
    · have hz1 : (0 : Int) < (bs.length : Int) := by omega
      have HWT : Hid (Waits K bs.length) := ⟨by rw [HO.out]; exact hw, hz⟩
      have hlS := HK.out.lenS
      have HPU := hid (push_i (x := ⟨o, num, .int .i64 (bs.length : Int)⟩) HL2.out.at_.hs HL2.out.at_.ps rfl (show K.S.length ≤ 2932031007402 by omega))
      go_upto_region 5 with (go_at_call 33; refine Calls.mono HPU.out ?_; rintro e w3 ⟨rfl, v', L', e1, e2, e3, e4, e5⟩)
      have HL3 : Hid (Lm p K w1 { K with busy := o, S := L', sv := v' } w3) := HL2.out.trans (HL2.out.at_.turnS e1 e3 e4 e5)
      have HP3 : Hid (L'.Perm (K.S ++ [⟨o, num, .int .i64 (bs.length : Int)⟩])) := e2
      clear e1 e2 e3 e4 e5 HPU HL2 c5 cb
      have cb := (HFB.out _ _ HL3.out).cell 0 _ rfl
      have c11 : w3.cell? ⟨p, 11, none⟩ = some (.int .i64 K.wait) := HL3.out.at_.row.cell 11 _ rfl
      have f11 := HL3.out.at_.row.frozen 11
      have HL4 : Hid (Lm p K w1 { K with busy := o, S := L', sv := v', wait := K.wait + bs.length } (w3.setCell ⟨p, 11, none⟩ (.int .i64 (K.wait + bs.length)))) := HL3.out.trans (HL3.out.at_.set 11 _ rfl (by decide) (by decide) rfl rfl rfl rfl rfl rfl rfl rfl rfl)
      have HS4 : Hid (∀ fv' Fl' v, Fl'.Perm (K.Fl ++ [(⟨o + K.delay + jitE K num, num, v⟩ : It Value)]) → SendE K num bs { K with busy := o, S := L', sv := v', wait := K.wait + bs.length, Fl := Fl', fv := fv', D := fun k => if k = num then bs else K.D k }) := fun fv' Fl' v hp => ⟨by rw [HO.out], by rw [if_pos HWT.out, HO.out]; exact HP3.out, by rw [if_pos HWT.out], v, by rw [HO.out]; exact hp⟩
      clear HL3 HP3 HWT
      go_upto_region 6 with fail
      clear c11 f11 cb
      revert HL4
      generalize w3.setCell ⟨p, 11, none⟩ (.int .i64 (K.wait + bs.length)) = wt
      intro HL4
      generalize hKT : ({ K with busy := o, S := L', sv := v', wait := K.wait + bs.length } : Lk) = KT at *
      have hk1 : KT.cells[1]? = some (.int .i64 K.delay) := by rw [← hKT]; rfl
      have hk4 : KT.cells[4]? = some K.jv := by rw [← hKT]; rfl
      have hkj : KT.jit = K.jit := by rw [← hKT]
      have hkjv : KT.jv = K.jv := by rw [← hKT]
      have hkF : KT.Fl = K.Fl := by rw [← hKT]
      have hkD : KT.D = K.D := by rw [← hKT]
      have HEQ : Hid (∀ fv' Fl' D', ({ KT with Fl := Fl', fv := fv', D := D' } : Lk) = { K with busy := o, S := L', sv := v', wait := K.wait + bs.length, Fl := Fl', fv := fv', D := D' }) := fun fv' Fl' D' => by rw [← hKT]
      clear hKT
      have cb := (HFB.out _ _ HL4.out).cell 0 _ rfl
      have HMT : Hid (Calls Try.prog 34 #[.int .i64 K.jit.length, .int .u64 num, .func (.func 35) #[] #[pt b 0]] wt fun e w' => e = .returned (.int .i64 (jitE K num)) ∧ w' = wt) := by
        have h1 := meet_i HL4.out.at_ (by rw [hkj]; exact HK.out.jn) cb h0
        rw [hkj] at h1
        have h2 : jitE KT num = jitE K num := by unfold jitE; rw [hkj]
        rw [h2] at h1
        exact h1
      obtain ⟨aj, cj, hjv, -⟩ := own1 HL4.out.at_.ji
      have c4 := HL4.out.at_.row.cell 4 _ hk4
      rw [← hkjv, hjv, hkj] at c4
      have c1 := HL4.out.at_.row.cell 1 _ hk1
      clear hjv
      go_upto_region 7 with (go_at_call 34; refine HMT.out.mono ?_; rintro e wt ⟨rfl, rfl⟩)
      have HY7 := hid (HFY.out _ _ HL4.out)
      clear HMT c4
      refine wp_region_some (fun w' => w'.cell? ⟨b, 0, none⟩ = some (pt p 0) ∧ w'.cell? ⟨p, 1, none⟩ = some (.int .i64 K.delay)) [] (by kernel_rfl) ?_
      have hHeld := (show (fun w' => w'.cell? ⟨b, 0, none⟩ = some (pt p 0) ∧ w'.cell? ⟨p, 1, none⟩ = some (.int .i64 K.delay)) wt.drew from ⟨cb, c1⟩)
      refine wpAnyG_take (i := 0) (oi := { dst := some 70, op := Go.Op.load 24 (Go.Operand.tmp 3), type := 24, pos := "link.go:99", after := #[], guard := none }) (v := ?v2_0) (by kernel_rfl) rfl (by kernel_rfl) (by kernel_rfl) (by kernel_rfl) (by kernel_rfl) (fun _ _ _ h => h) (Or.inl ⟨by kernel_rfl, ?h2_0⟩) (by assumption) ?r2_0
      case h2_0 => (intro wt hSw; (try dsimp only at hSw); obtain ⟨s0, s1⟩ := hSw; go_simp; try rfl)
      simp only [Act.put, List.setIfInBounds_toArray, List.set_cons_zero, List.set_cons_succ]
      refine wpAnyG_take' (i := 1) (oi := { dst := some 71, op := Go.Op.nilCheck (Go.Operand.tmp 70), type := 0, pos := "link.go:99", after := #[{ on := 0, ground := Go.Ground.data }], guard := none }) (v := ?v2_1) rfl (by kernel_rfl) (by kernel_rfl) (by kernel_rfl) (fun _ _ _ h => h) (Or.inl ⟨by kernel_rfl, ?h2_1⟩) ?r2_1
      case h2_1 => (intro wt hSw; clear hSw; go_simp; try with_reducible rfl)
      simp only [Act.put, List.setIfInBounds_toArray, List.set_cons_zero, List.set_cons_succ]
      refine wpAnyG_take' (i := 2) (oi := { dst := some 72, op := Go.Op.fieldAddr 38 (Go.Operand.tmp 71) 3, type := 0, pos := "link.go:99", after := #[{ on := 1, ground := Go.Ground.data }], guard := none }) (v := ?v2_2) rfl (by kernel_rfl) (by kernel_rfl) (by kernel_rfl) (fun _ _ _ h => h) (Or.inl ⟨by kernel_rfl, ?h2_2⟩) ?r2_2
      case h2_2 => (intro wt hSw; clear hSw; go_simp; try with_reducible rfl)
      simp only [Act.put, List.setIfInBounds_toArray, List.set_cons_zero, List.set_cons_succ]
      refine wpAnyG_take' (i := 3) (oi := { dst := some 73, op := Go.Op.move (Go.Operand.tmp 6), type := 22, pos := "link.go:99", after := #[], guard := none }) (v := ?v2_3) rfl (by kernel_rfl) (by kernel_rfl) (by kernel_rfl) (fun _ _ _ h => h) (Or.inl ⟨by kernel_rfl, ?h2_3⟩) ?r2_3
      case h2_3 => (intro wt hSw; clear hSw; go_simp; try with_reducible rfl)
      simp only [Act.put, List.setIfInBounds_toArray, List.set_cons_zero, List.set_cons_succ]
      refine wpAnyG_take (i := 4) (oi := { dst := some 74, op := Go.Op.load 24 (Go.Operand.tmp 3), type := 24, pos := "link.go:99", after := #[], guard := none }) (v := ?v2_4) (by kernel_rfl) rfl (by kernel_rfl) (by kernel_rfl) (by kernel_rfl) (by kernel_rfl) (fun _ _ _ h => h) (Or.inl ⟨by kernel_rfl, ?h2_4⟩) (by assumption) ?r2_4
      case h2_4 => (intro wt hSw; (try dsimp only at hSw); obtain ⟨s0, s1⟩ := hSw; go_simp; try rfl)
      simp only [Act.put, List.setIfInBounds_toArray, List.set_cons_zero, List.set_cons_succ]
      refine wpAnyG_take' (i := 5) (oi := { dst := some 75, op := Go.Op.nilCheck (Go.Operand.tmp 74), type := 0, pos := "link.go:99", after := #[{ on := 4, ground := Go.Ground.data }], guard := none }) (v := ?v2_5) rfl (by kernel_rfl) (by kernel_rfl) (by kernel_rfl) (fun _ _ _ h => h) (Or.inl ⟨by kernel_rfl, ?h2_5⟩) ?r2_5
      case h2_5 => (intro wt hSw; clear hSw; go_simp; try with_reducible rfl)
      simp only [Act.put, List.setIfInBounds_toArray, List.set_cons_zero, List.set_cons_succ]
      refine wpAnyG_take' (i := 6) (oi := { dst := some 76, op := Go.Op.fieldAddr 38 (Go.Operand.tmp 75) 0, type := 0, pos := "link.go:99", after := #[{ on := 5, ground := Go.Ground.data }], guard := none }) (v := ?v2_6) rfl (by kernel_rfl) (by kernel_rfl) (by kernel_rfl) (fun _ _ _ h => h) (Or.inl ⟨by kernel_rfl, ?h2_6⟩) ?r2_6
      case h2_6 => (intro wt hSw; clear hSw; go_simp; try with_reducible rfl)
      simp only [Act.put, List.setIfInBounds_toArray, List.set_cons_zero, List.set_cons_succ]
      refine wpAnyG_take' (i := 7) (oi := { dst := some 77, op := Go.Op.fieldAddr 28 (Go.Operand.tmp 76) 1, type := 0, pos := "link.go:99", after := #[{ on := 6, ground := Go.Ground.data }], guard := none }) (v := ?v2_7) rfl (by kernel_rfl) (by kernel_rfl) (by kernel_rfl) (fun _ _ _ h => h) (Or.inl ⟨by kernel_rfl, ?h2_7⟩) ?r2_7
      case h2_7 => (intro wt hSw; clear hSw; go_simp; try with_reducible rfl)
      simp only [Act.put, List.setIfInBounds_toArray, List.set_cons_zero, List.set_cons_succ]
      refine wpAnyG_take (i := 8) (oi := { dst := some 78, op := Go.Op.load 3 (Go.Operand.tmp 77), type := 3, pos := "link.go:99", after := #[{ on := 7, ground := Go.Ground.data }], guard := none }) (v := ?v2_8) (by kernel_rfl) rfl (by kernel_rfl) (by kernel_rfl) (by kernel_rfl) (by kernel_rfl) (fun _ _ _ h => h) (Or.inl ⟨by kernel_rfl, ?h2_8⟩) (by assumption) ?r2_8
      case h2_8 => (intro wt hSw; (try dsimp only at hSw); obtain ⟨s0, s1⟩ := hSw; go_simp; try rfl)
      simp only [Act.put, List.setIfInBounds_toArray, List.set_cons_zero, List.set_cons_succ]
      refine wpAnyG_take' (i := 9) (oi := { dst := some 79, op := Go.Op.convert 3 22 (Go.Operand.tmp 78), type := 22, pos := "link.go:99", after := #[{ on := 8, ground := Go.Ground.data }], guard := none }) (v := .int .u64 K.delay) rfl (by kernel_rfl) (by kernel_rfl) (by kernel_rfl) (fun _ _ _ h => h) (Or.inl ⟨by kernel_rfl, ?h2_9⟩) ?r2_9
      case h2_9 => (intro wt hSw; clear hSw; go_simp; try (rw [IntKind.wrap_u64]; omega))
      simp only [Act.put, List.setIfInBounds_toArray, List.set_cons_zero, List.set_cons_succ]
      refine wpAnyG_take' (i := 10) (oi := { dst := some 80, op := Go.Op.binOp Go.BinOp.add 22 (Go.Operand.tmp 73) (Go.Operand.tmp 79) 22, type := 22, pos := "link.go:99", after := #[{ on := 3, ground := Go.Ground.data }, { on := 9, ground := Go.Ground.data }], guard := none }) (v := .int .u64 (o + K.delay)) rfl (by kernel_rfl) (by kernel_rfl) (by kernel_rfl) (fun _ _ _ h => h) (Or.inl ⟨by kernel_rfl, ?h2_10⟩) ?r2_10
      case h2_10 => (intro wt hSw; clear hSw; go_simp; try (rw [IntKind.wrap_u64]; omega))
      simp only [Act.put, List.setIfInBounds_toArray, List.set_cons_zero, List.set_cons_succ]
      refine wpAnyG_take' (i := 11) (oi := { dst := some 81, op := Go.Op.move (Go.Operand.tmp 7), type := 3, pos := "link.go:99", after := #[], guard := none }) (v := ?v2_11) rfl (by kernel_rfl) (by kernel_rfl) (by kernel_rfl) (fun _ _ _ h => h) (Or.inl ⟨by kernel_rfl, ?h2_11⟩) ?r2_11
      case h2_11 => (intro wt hSw; clear hSw; go_simp; try with_reducible rfl)
      simp only [Act.put, List.setIfInBounds_toArray, List.set_cons_zero, List.set_cons_succ]
      refine wpAnyG_take' (i := 12) (oi := { dst := some 82, op := Go.Op.convert 3 22 (Go.Operand.tmp 81), type := 22, pos := "link.go:99", after := #[{ on := 11, ground := Go.Ground.data }], guard := none }) (v := .int .u64 (jitE K num)) rfl (by kernel_rfl) (by kernel_rfl) (by kernel_rfl) (fun _ _ _ h => h) (Or.inl ⟨by kernel_rfl, ?h2_12⟩) ?r2_12
      case h2_12 => (intro wt hSw; clear hSw; go_simp; try (rw [IntKind.wrap_u64]; omega))
      simp only [Act.put, List.setIfInBounds_toArray, List.set_cons_zero, List.set_cons_succ]
      refine wpAnyG_take' (i := 13) (oi := { dst := some 83, op := Go.Op.binOp Go.BinOp.add 22 (Go.Operand.tmp 80) (Go.Operand.tmp 82) 22, type := 22, pos := "link.go:99", after := #[{ on := 10, ground := Go.Ground.data }, { on := 12, ground := Go.Ground.data }], guard := none }) (v := .int .u64 (o + K.delay + jitE K num)) rfl (by kernel_rfl) (by kernel_rfl) (by kernel_rfl) (fun _ _ _ h => h) (Or.inl ⟨by kernel_rfl, ?h2_13⟩) ?r2_13
      case h2_13 => (intro wt hSw; clear hSw; go_simp; try (rw [IntKind.wrap_u64]; omega))
      simp only [Act.put, List.setIfInBounds_toArray, List.set_cons_zero, List.set_cons_succ]
      refine wpAnyG_take' (i := 14) (oi := { dst := some 84, op := Go.Op.move (Go.Operand.tmp 1), type := 22, pos := "link.go:99", after := #[], guard := none }) (v := ?v2_14) rfl (by kernel_rfl) (by kernel_rfl) (by kernel_rfl) (fun _ _ _ h => h) (Or.inl ⟨by kernel_rfl, ?h2_14⟩) ?r2_14
      case h2_14 => (intro wt hSw; clear hSw; go_simp; try with_reducible rfl)
      simp only [Act.put, List.setIfInBounds_toArray, List.set_cons_zero, List.set_cons_succ]
      refine wpAnyG_take' (i := 15) (oi := { dst := some 85, op := Go.Op.move (Go.Operand.tmp 2), type := 23, pos := "link.go:99", after := #[], guard := none }) (v := ?v2_15) rfl (by kernel_rfl) (by kernel_rfl) (by kernel_rfl) (fun _ _ _ h => h) (Or.inl ⟨by kernel_rfl, ?h2_15⟩) ?r2_15
      case h2_15 => (intro wt hSw; clear hSw; go_simp; try with_reducible rfl)
      simp only [Act.put, List.setIfInBounds_toArray, List.set_cons_zero, List.set_cons_succ]
      refine wpAnyG_one (i := 16) (o := { dst := some 86, op := Go.Op.call { callee := Go.Callee.value (Go.Operand.func 37), args := #[Go.Operand.tmp 85], argTypes := #[23] }, type := 23, pos := "link.go:99", after := #[{ on := 15, ground := Go.Ground.data }], guard := none }) rfl (by kernel_rfl) (by kernel_rfl) ?_
      refine step_callxi (f := 37) (args := #[.slice a bs.length cap]) (by first | kernel_rfl | go_simp) ((clone_any (HY7.out.kept (below_drewN (Below.refl _ _) 1)) rfl (by omega)).mono (fun e w2 ⟨v, h1, h2, h3⟩ => (⟨v, h1, h2, h3⟩ : ∃ v, e = .returned v ∧ (OwnBy w2 wt.drew.heap.size v bs ∧ Below wt.drew.heap.size wt.drew w2)))) ?_
      rintro v8 w8 ⟨hO8, hB8⟩
      have hHeld8 := (show (fun w' => w'.cell? ⟨b, 0, none⟩ = some (pt p 0) ∧ w'.cell? ⟨p, 1, none⟩ = some (.int .i64 K.delay)) w8 from ⟨cell_kept hB8 hHeld.1, cell_kept hB8 hHeld.2⟩)
      obtain ⟨a8, c8, rfl, -⟩ := ownBy_shape hO8
      have HL8 : Hid (Lm p K w1 KT w8) := hid ((HL4.out.below (below_drewN (Below.refl _ _) 1)).below hB8)
      have HO8 := hid hO8
      have HS8 := hid hB8.size
      clear hO8 hB8
      refine ⟨fun _ _ => hHeld8, ?_⟩
      simp only [Act.put, List.setIfInBounds_toArray, List.set_cons_zero, List.set_cons_succ]
      refine wpAnyG_take' (i := 17) (oi := { dst := some 87, op := Go.Op.build 70 #[(0, Go.Operand.tmp 83), (1, Go.Operand.tmp 84), (2, Go.Operand.tmp 86)], type := 70, pos := "link.go:99", after := #[{ on := 13, ground := Go.Ground.data }, { on := 14, ground := Go.Ground.data }, { on := 16, ground := Go.Ground.data }], guard := none }) (v := .agg #[.int .u64 (o + K.delay + jitE K num), .int .u64 num, .slice a8 bs.length c8]) rfl (by kernel_rfl) (by kernel_rfl) (by kernel_rfl) (fun _ _ _ h => h) (Or.inl ⟨by kernel_rfl, ?h2_17⟩) ?r2_17
      case h2_17 => (intro wt hSw; clear hSw; go_simp; try with_reducible rfl)
      simp only [Act.put, List.setIfInBounds_toArray, List.set_cons_zero, List.set_cons_succ]
      refine wpAnyG_one (i := 18) (o := { dst := some 88, op := Go.Op.call { callee := Go.Callee.value (Go.Operand.func 36), args := #[Go.Operand.tmp 72, Go.Operand.tmp 87], argTypes := #[36, 70] }, type := 0, pos := "link.go:99", after := #[{ on := 2, ground := Go.Ground.data }, { on := 17, ground := Go.Ground.data }, { on := 16, ground := Go.Ground.chain }], guard := none }) rfl (by kernel_rfl) (by kernel_rfl) ?_
      have HPB := hid (push_b (x := ⟨o + K.delay + jitE K num, num, .slice a8 bs.length c8⟩) HL8.out.at_.hf HL8.out.at_.pf rfl (by rw [hkF]; exact hfl))
      refine step_callxi (f := 36) (args := #[pt p 14, .agg #[.int .u64 (o + K.delay + jitE K num), .int .u64 num, .slice a8 bs.length c8]]) (by first | kernel_rfl | go_simp) (HPB.out.mono (fun e w2 ⟨h1, h2⟩ => (⟨_, h1, rfl, h2⟩ : ∃ v, e = .returned v ∧ (v = .tuple #[] ∧ _)))) ?_
      rintro v9 w9 ⟨rfl, fv', L9, e1, e2, e3, e4, e5⟩
      rw [hkF] at e2
      have HL9 := hid (send_last HL8.out HO8.out hkF hkD (show w1.heap.size ≤ wt.drew.heap.size from HL4.out.fr.size) HKF.out hnum e1 e2 e3 e4 e5)
      have hHeld9 := (show (fun w' => w'.cell? ⟨b, 0, none⟩ = some (pt p 0) ∧ w'.cell? ⟨p, 1, none⟩ = some (.int .i64 K.delay)) w9 from ⟨(HFB.out _ _ HL9.out).cell 0 _ rfl, HL9.out.at_.row.cell 1 _ hk1⟩)
      refine ⟨fun _ _ => hHeld9, ?_⟩
      simp only [Act.put, List.setIfInBounds_toArray, List.set_cons_zero, List.set_cons_succ]
      refine wpAnyG_done (by kernel_rfl) ?_ _
      clear hHeld hHeld8 hHeld9
      go_wp2_with fail
      refine bodyPost_end (results_none Try.results23 _ _ _) rfl ?_
      have h9 := HL9.out
      rw [HEQ.out] at h9
      exact ⟨rfl, _, HEW.out _ _ h9, HS4.out _ _ _ e2⟩
    · have hz0 : ¬ (0 : Int) < (bs.length : Int) := by omega
      have HWT : Hid (¬ Waits K bs.length) := fun h => hz h.2
      have HS4 : Hid (∀ fv' Fl' v, Fl'.Perm (K.Fl ++ [(⟨o + K.delay + jitE K num, num, v⟩ : It Value)]) → SendE K num bs { K with busy := o, Fl := Fl', fv := fv', D := fun k => if k = num then bs else K.D k }) := fun fv' Fl' v hp => ⟨by rw [HO.out], by rw [if_neg HWT.out, List.append_nil], by rw [if_neg HWT.out, Int.add_zero], v, by rw [HO.out]; exact hp⟩
      clear HWT
      go_upto_region 6 with fail
      clear c5 cb
      have HL4 := HL2
      clear HL2
      revert HL4
      generalize w2 = wt
      intro HL4
      generalize hKT : ({ K with busy := o } : Lk) = KT at *
      have hk1 : KT.cells[1]? = some (.int .i64 K.delay) := by rw [← hKT]; rfl
      have hk4 : KT.cells[4]? = some K.jv := by rw [← hKT]; rfl
      have hkj : KT.jit = K.jit := by rw [← hKT]
      have hkjv : KT.jv = K.jv := by rw [← hKT]
      have hkF : KT.Fl = K.Fl := by rw [← hKT]
      have hkD : KT.D = K.D := by rw [← hKT]
      have HEQ : Hid (∀ fv' Fl' D', ({ KT with Fl := Fl', fv := fv', D := D' } : Lk) = { K with busy := o, Fl := Fl', fv := fv', D := D' }) := fun fv' Fl' D' => by rw [← hKT]
      clear hKT
      have cb := (HFB.out _ _ HL4.out).cell 0 _ rfl
      have HMT : Hid (Calls Try.prog 34 #[.int .i64 K.jit.length, .int .u64 num, .func (.func 35) #[] #[pt b 0]] wt fun e w' => e = .returned (.int .i64 (jitE K num)) ∧ w' = wt) := by
        have h1 := meet_i HL4.out.at_ (by rw [hkj]; exact HK.out.jn) cb h0
        rw [hkj] at h1
        have h2 : jitE KT num = jitE K num := by unfold jitE; rw [hkj]
        rw [h2] at h1
        exact h1
      obtain ⟨aj, cj, hjv, -⟩ := own1 HL4.out.at_.ji
      have c4 := HL4.out.at_.row.cell 4 _ hk4
      rw [← hkjv, hjv, hkj] at c4
      have c1 := HL4.out.at_.row.cell 1 _ hk1
      clear hjv
      go_upto_region 7 with (go_at_call 34; refine HMT.out.mono ?_; rintro e wt ⟨rfl, rfl⟩)
      have HY7 := hid (HFY.out _ _ HL4.out)
      clear HMT c4
      refine wp_region_some (fun w' => w'.cell? ⟨b, 0, none⟩ = some (pt p 0) ∧ w'.cell? ⟨p, 1, none⟩ = some (.int .i64 K.delay)) [] (by kernel_rfl) ?_
      have hHeld := (show (fun w' => w'.cell? ⟨b, 0, none⟩ = some (pt p 0) ∧ w'.cell? ⟨p, 1, none⟩ = some (.int .i64 K.delay)) wt.drew from ⟨cb, c1⟩)
      refine wpAnyG_take (i := 0) (oi := { dst := some 70, op := Go.Op.load 24 (Go.Operand.tmp 3), type := 24, pos := "link.go:99", after := #[], guard := none }) (v := ?v3_0) (by kernel_rfl) rfl (by kernel_rfl) (by kernel_rfl) (by kernel_rfl) (by kernel_rfl) (fun _ _ _ h => h) (Or.inl ⟨by kernel_rfl, ?h3_0⟩) (by assumption) ?r3_0
      case h3_0 => (intro wt hSw; (try dsimp only at hSw); obtain ⟨s0, s1⟩ := hSw; go_simp; try rfl)
      simp only [Act.put, List.setIfInBounds_toArray, List.set_cons_zero, List.set_cons_succ]
      refine wpAnyG_take' (i := 1) (oi := { dst := some 71, op := Go.Op.nilCheck (Go.Operand.tmp 70), type := 0, pos := "link.go:99", after := #[{ on := 0, ground := Go.Ground.data }], guard := none }) (v := ?v3_1) rfl (by kernel_rfl) (by kernel_rfl) (by kernel_rfl) (fun _ _ _ h => h) (Or.inl ⟨by kernel_rfl, ?h3_1⟩) ?r3_1
      case h3_1 => (intro wt hSw; clear hSw; go_simp; try with_reducible rfl)
      simp only [Act.put, List.setIfInBounds_toArray, List.set_cons_zero, List.set_cons_succ]
      refine wpAnyG_take' (i := 2) (oi := { dst := some 72, op := Go.Op.fieldAddr 38 (Go.Operand.tmp 71) 3, type := 0, pos := "link.go:99", after := #[{ on := 1, ground := Go.Ground.data }], guard := none }) (v := ?v3_2) rfl (by kernel_rfl) (by kernel_rfl) (by kernel_rfl) (fun _ _ _ h => h) (Or.inl ⟨by kernel_rfl, ?h3_2⟩) ?r3_2
      case h3_2 => (intro wt hSw; clear hSw; go_simp; try with_reducible rfl)
      simp only [Act.put, List.setIfInBounds_toArray, List.set_cons_zero, List.set_cons_succ]
      refine wpAnyG_take' (i := 3) (oi := { dst := some 73, op := Go.Op.move (Go.Operand.tmp 6), type := 22, pos := "link.go:99", after := #[], guard := none }) (v := ?v3_3) rfl (by kernel_rfl) (by kernel_rfl) (by kernel_rfl) (fun _ _ _ h => h) (Or.inl ⟨by kernel_rfl, ?h3_3⟩) ?r3_3
      case h3_3 => (intro wt hSw; clear hSw; go_simp; try with_reducible rfl)
      simp only [Act.put, List.setIfInBounds_toArray, List.set_cons_zero, List.set_cons_succ]
      refine wpAnyG_take (i := 4) (oi := { dst := some 74, op := Go.Op.load 24 (Go.Operand.tmp 3), type := 24, pos := "link.go:99", after := #[], guard := none }) (v := ?v3_4) (by kernel_rfl) rfl (by kernel_rfl) (by kernel_rfl) (by kernel_rfl) (by kernel_rfl) (fun _ _ _ h => h) (Or.inl ⟨by kernel_rfl, ?h3_4⟩) (by assumption) ?r3_4
      case h3_4 => (intro wt hSw; (try dsimp only at hSw); obtain ⟨s0, s1⟩ := hSw; go_simp; try rfl)
      simp only [Act.put, List.setIfInBounds_toArray, List.set_cons_zero, List.set_cons_succ]
      refine wpAnyG_take' (i := 5) (oi := { dst := some 75, op := Go.Op.nilCheck (Go.Operand.tmp 74), type := 0, pos := "link.go:99", after := #[{ on := 4, ground := Go.Ground.data }], guard := none }) (v := ?v3_5) rfl (by kernel_rfl) (by kernel_rfl) (by kernel_rfl) (fun _ _ _ h => h) (Or.inl ⟨by kernel_rfl, ?h3_5⟩) ?r3_5
      case h3_5 => (intro wt hSw; clear hSw; go_simp; try with_reducible rfl)
      simp only [Act.put, List.setIfInBounds_toArray, List.set_cons_zero, List.set_cons_succ]
      refine wpAnyG_take' (i := 6) (oi := { dst := some 76, op := Go.Op.fieldAddr 38 (Go.Operand.tmp 75) 0, type := 0, pos := "link.go:99", after := #[{ on := 5, ground := Go.Ground.data }], guard := none }) (v := ?v3_6) rfl (by kernel_rfl) (by kernel_rfl) (by kernel_rfl) (fun _ _ _ h => h) (Or.inl ⟨by kernel_rfl, ?h3_6⟩) ?r3_6
      case h3_6 => (intro wt hSw; clear hSw; go_simp; try with_reducible rfl)
      simp only [Act.put, List.setIfInBounds_toArray, List.set_cons_zero, List.set_cons_succ]
      refine wpAnyG_take' (i := 7) (oi := { dst := some 77, op := Go.Op.fieldAddr 28 (Go.Operand.tmp 76) 1, type := 0, pos := "link.go:99", after := #[{ on := 6, ground := Go.Ground.data }], guard := none }) (v := ?v3_7) rfl (by kernel_rfl) (by kernel_rfl) (by kernel_rfl) (fun _ _ _ h => h) (Or.inl ⟨by kernel_rfl, ?h3_7⟩) ?r3_7
      case h3_7 => (intro wt hSw; clear hSw; go_simp; try with_reducible rfl)
      simp only [Act.put, List.setIfInBounds_toArray, List.set_cons_zero, List.set_cons_succ]
      refine wpAnyG_take (i := 8) (oi := { dst := some 78, op := Go.Op.load 3 (Go.Operand.tmp 77), type := 3, pos := "link.go:99", after := #[{ on := 7, ground := Go.Ground.data }], guard := none }) (v := ?v3_8) (by kernel_rfl) rfl (by kernel_rfl) (by kernel_rfl) (by kernel_rfl) (by kernel_rfl) (fun _ _ _ h => h) (Or.inl ⟨by kernel_rfl, ?h3_8⟩) (by assumption) ?r3_8
      case h3_8 => (intro wt hSw; (try dsimp only at hSw); obtain ⟨s0, s1⟩ := hSw; go_simp; try rfl)
      simp only [Act.put, List.setIfInBounds_toArray, List.set_cons_zero, List.set_cons_succ]
      refine wpAnyG_take' (i := 9) (oi := { dst := some 79, op := Go.Op.convert 3 22 (Go.Operand.tmp 78), type := 22, pos := "link.go:99", after := #[{ on := 8, ground := Go.Ground.data }], guard := none }) (v := .int .u64 K.delay) rfl (by kernel_rfl) (by kernel_rfl) (by kernel_rfl) (fun _ _ _ h => h) (Or.inl ⟨by kernel_rfl, ?h3_9⟩) ?r3_9
      case h3_9 => (intro wt hSw; clear hSw; go_simp; try (rw [IntKind.wrap_u64]; omega))
      simp only [Act.put, List.setIfInBounds_toArray, List.set_cons_zero, List.set_cons_succ]
      refine wpAnyG_take' (i := 10) (oi := { dst := some 80, op := Go.Op.binOp Go.BinOp.add 22 (Go.Operand.tmp 73) (Go.Operand.tmp 79) 22, type := 22, pos := "link.go:99", after := #[{ on := 3, ground := Go.Ground.data }, { on := 9, ground := Go.Ground.data }], guard := none }) (v := .int .u64 (o + K.delay)) rfl (by kernel_rfl) (by kernel_rfl) (by kernel_rfl) (fun _ _ _ h => h) (Or.inl ⟨by kernel_rfl, ?h3_10⟩) ?r3_10
      case h3_10 => (intro wt hSw; clear hSw; go_simp; try (rw [IntKind.wrap_u64]; omega))
      simp only [Act.put, List.setIfInBounds_toArray, List.set_cons_zero, List.set_cons_succ]
      refine wpAnyG_take' (i := 11) (oi := { dst := some 81, op := Go.Op.move (Go.Operand.tmp 7), type := 3, pos := "link.go:99", after := #[], guard := none }) (v := ?v3_11) rfl (by kernel_rfl) (by kernel_rfl) (by kernel_rfl) (fun _ _ _ h => h) (Or.inl ⟨by kernel_rfl, ?h3_11⟩) ?r3_11
      case h3_11 => (intro wt hSw; clear hSw; go_simp; try with_reducible rfl)
      simp only [Act.put, List.setIfInBounds_toArray, List.set_cons_zero, List.set_cons_succ]
      refine wpAnyG_take' (i := 12) (oi := { dst := some 82, op := Go.Op.convert 3 22 (Go.Operand.tmp 81), type := 22, pos := "link.go:99", after := #[{ on := 11, ground := Go.Ground.data }], guard := none }) (v := .int .u64 (jitE K num)) rfl (by kernel_rfl) (by kernel_rfl) (by kernel_rfl) (fun _ _ _ h => h) (Or.inl ⟨by kernel_rfl, ?h3_12⟩) ?r3_12
      case h3_12 => (intro wt hSw; clear hSw; go_simp; try (rw [IntKind.wrap_u64]; omega))
      simp only [Act.put, List.setIfInBounds_toArray, List.set_cons_zero, List.set_cons_succ]
      refine wpAnyG_take' (i := 13) (oi := { dst := some 83, op := Go.Op.binOp Go.BinOp.add 22 (Go.Operand.tmp 80) (Go.Operand.tmp 82) 22, type := 22, pos := "link.go:99", after := #[{ on := 10, ground := Go.Ground.data }, { on := 12, ground := Go.Ground.data }], guard := none }) (v := .int .u64 (o + K.delay + jitE K num)) rfl (by kernel_rfl) (by kernel_rfl) (by kernel_rfl) (fun _ _ _ h => h) (Or.inl ⟨by kernel_rfl, ?h3_13⟩) ?r3_13
      case h3_13 => (intro wt hSw; clear hSw; go_simp; try (rw [IntKind.wrap_u64]; omega))
      simp only [Act.put, List.setIfInBounds_toArray, List.set_cons_zero, List.set_cons_succ]
      refine wpAnyG_take' (i := 14) (oi := { dst := some 84, op := Go.Op.move (Go.Operand.tmp 1), type := 22, pos := "link.go:99", after := #[], guard := none }) (v := ?v3_14) rfl (by kernel_rfl) (by kernel_rfl) (by kernel_rfl) (fun _ _ _ h => h) (Or.inl ⟨by kernel_rfl, ?h3_14⟩) ?r3_14
      case h3_14 => (intro wt hSw; clear hSw; go_simp; try with_reducible rfl)
      simp only [Act.put, List.setIfInBounds_toArray, List.set_cons_zero, List.set_cons_succ]
      refine wpAnyG_take' (i := 15) (oi := { dst := some 85, op := Go.Op.move (Go.Operand.tmp 2), type := 23, pos := "link.go:99", after := #[], guard := none }) (v := ?v3_15) rfl (by kernel_rfl) (by kernel_rfl) (by kernel_rfl) (fun _ _ _ h => h) (Or.inl ⟨by kernel_rfl, ?h3_15⟩) ?r3_15
      case h3_15 => (intro wt hSw; clear hSw; go_simp; try with_reducible rfl)
      simp only [Act.put, List.setIfInBounds_toArray, List.set_cons_zero, List.set_cons_succ]
      refine wpAnyG_one (i := 16) (o := { dst := some 86, op := Go.Op.call { callee := Go.Callee.value (Go.Operand.func 37), args := #[Go.Operand.tmp 85], argTypes := #[23] }, type := 23, pos := "link.go:99", after := #[{ on := 15, ground := Go.Ground.data }], guard := none }) rfl (by kernel_rfl) (by kernel_rfl) ?_
      refine step_callxi (f := 37) (args := #[.slice a bs.length cap]) (by first | kernel_rfl | go_simp) ((clone_any (HY7.out.kept (below_drewN (Below.refl _ _) 1)) rfl (by omega)).mono (fun e w2 ⟨v, h1, h2, h3⟩ => (⟨v, h1, h2, h3⟩ : ∃ v, e = .returned v ∧ (OwnBy w2 wt.drew.heap.size v bs ∧ Below wt.drew.heap.size wt.drew w2)))) ?_
      rintro v8 w8 ⟨hO8, hB8⟩
      have hHeld8 := (show (fun w' => w'.cell? ⟨b, 0, none⟩ = some (pt p 0) ∧ w'.cell? ⟨p, 1, none⟩ = some (.int .i64 K.delay)) w8 from ⟨cell_kept hB8 hHeld.1, cell_kept hB8 hHeld.2⟩)
      obtain ⟨a8, c8, rfl, -⟩ := ownBy_shape hO8
      have HL8 : Hid (Lm p K w1 KT w8) := hid ((HL4.out.below (below_drewN (Below.refl _ _) 1)).below hB8)
      have HO8 := hid hO8
      have HS8 := hid hB8.size
      clear hO8 hB8
      refine ⟨fun _ _ => hHeld8, ?_⟩
      simp only [Act.put, List.setIfInBounds_toArray, List.set_cons_zero, List.set_cons_succ]
      refine wpAnyG_take' (i := 17) (oi := { dst := some 87, op := Go.Op.build 70 #[(0, Go.Operand.tmp 83), (1, Go.Operand.tmp 84), (2, Go.Operand.tmp 86)], type := 70, pos := "link.go:99", after := #[{ on := 13, ground := Go.Ground.data }, { on := 14, ground := Go.Ground.data }, { on := 16, ground := Go.Ground.data }], guard := none }) (v := .agg #[.int .u64 (o + K.delay + jitE K num), .int .u64 num, .slice a8 bs.length c8]) rfl (by kernel_rfl) (by kernel_rfl) (by kernel_rfl) (fun _ _ _ h => h) (Or.inl ⟨by kernel_rfl, ?h3_17⟩) ?r3_17
      case h3_17 => (intro wt hSw; clear hSw; go_simp; try with_reducible rfl)
      simp only [Act.put, List.setIfInBounds_toArray, List.set_cons_zero, List.set_cons_succ]
      refine wpAnyG_one (i := 18) (o := { dst := some 88, op := Go.Op.call { callee := Go.Callee.value (Go.Operand.func 36), args := #[Go.Operand.tmp 72, Go.Operand.tmp 87], argTypes := #[36, 70] }, type := 0, pos := "link.go:99", after := #[{ on := 2, ground := Go.Ground.data }, { on := 17, ground := Go.Ground.data }, { on := 16, ground := Go.Ground.chain }], guard := none }) rfl (by kernel_rfl) (by kernel_rfl) ?_
      have HPB := hid (push_b (x := ⟨o + K.delay + jitE K num, num, .slice a8 bs.length c8⟩) HL8.out.at_.hf HL8.out.at_.pf rfl (by rw [hkF]; exact hfl))
      refine step_callxi (f := 36) (args := #[pt p 14, .agg #[.int .u64 (o + K.delay + jitE K num), .int .u64 num, .slice a8 bs.length c8]]) (by first | kernel_rfl | go_simp) (HPB.out.mono (fun e w2 ⟨h1, h2⟩ => (⟨_, h1, rfl, h2⟩ : ∃ v, e = .returned v ∧ (v = .tuple #[] ∧ _)))) ?_
      rintro v9 w9 ⟨rfl, fv', L9, e1, e2, e3, e4, e5⟩
      rw [hkF] at e2
      have HL9 := hid (send_last HL8.out HO8.out hkF hkD (show w1.heap.size ≤ wt.drew.heap.size from HL4.out.fr.size) HKF.out hnum e1 e2 e3 e4 e5)
      have hHeld9 := (show (fun w' => w'.cell? ⟨b, 0, none⟩ = some (pt p 0) ∧ w'.cell? ⟨p, 1, none⟩ = some (.int .i64 K.delay)) w9 from ⟨(HFB.out _ _ HL9.out).cell 0 _ rfl, HL9.out.at_.row.cell 1 _ hk1⟩)
      refine ⟨fun _ _ => hHeld9, ?_⟩
      simp only [Act.put, List.setIfInBounds_toArray, List.set_cons_zero, List.set_cons_succ]
      refine wpAnyG_done (by kernel_rfl) ?_ _
      clear hHeld hHeld8 hHeld9
      go_wp2_with fail
      refine bodyPost_end (results_none Try.results23 _ _ _) rfl ?_
      have h9 := HL9.out
      rw [HEQ.out] at h9
      exact ⟨rfl, _, HEW.out _ _ h9, HS4.out _ _ _ e2⟩
  · have hw0 : ¬ K.now < o := hw
    have HWT : Hid (¬ Waits K bs.length) := fun h => hw (by have := h.1; rw [HO.out] at this; exact this)
    have HS4 : Hid (∀ fv' Fl' v, Fl'.Perm (K.Fl ++ [(⟨o + K.delay + jitE K num, num, v⟩ : It Value)]) → SendE K num bs { K with busy := o, Fl := Fl', fv := fv', D := fun k => if k = num then bs else K.D k }) := fun fv' Fl' v hp => ⟨by rw [HO.out], by rw [if_neg HWT.out, List.append_nil], by rw [if_neg HWT.out, Int.add_zero], v, by rw [HO.out]; exact hp⟩
    clear HWT
    go_upto_region 6 with fail
    clear c5 cb
    have HL4 := HL2
    clear HL2
    revert HL4
    generalize w2 = wt
    intro HL4
    generalize hKT : ({ K with busy := o } : Lk) = KT at *
    have hk1 : KT.cells[1]? = some (.int .i64 K.delay) := by rw [← hKT]; rfl
    have hk4 : KT.cells[4]? = some K.jv := by rw [← hKT]; rfl
    have hkj : KT.jit = K.jit := by rw [← hKT]
    have hkjv : KT.jv = K.jv := by rw [← hKT]
    have hkF : KT.Fl = K.Fl := by rw [← hKT]
    have hkD : KT.D = K.D := by rw [← hKT]
    have HEQ : Hid (∀ fv' Fl' D', ({ KT with Fl := Fl', fv := fv', D := D' } : Lk) = { K with busy := o, Fl := Fl', fv := fv', D := D' }) := fun fv' Fl' D' => by rw [← hKT]
    clear hKT
    have cb := (HFB.out _ _ HL4.out).cell 0 _ rfl
    have HMT : Hid (Calls Try.prog 34 #[.int .i64 K.jit.length, .int .u64 num, .func (.func 35) #[] #[pt b 0]] wt fun e w' => e = .returned (.int .i64 (jitE K num)) ∧ w' = wt) := by
      have h1 := meet_i HL4.out.at_ (by rw [hkj]; exact HK.out.jn) cb h0
      rw [hkj] at h1
      have h2 : jitE KT num = jitE K num := by unfold jitE; rw [hkj]
      rw [h2] at h1
      exact h1
    obtain ⟨aj, cj, hjv, -⟩ := own1 HL4.out.at_.ji
    have c4 := HL4.out.at_.row.cell 4 _ hk4
    rw [← hkjv, hjv, hkj] at c4
    have c1 := HL4.out.at_.row.cell 1 _ hk1
    clear hjv
    go_upto_region 7 with (go_at_call 34; refine HMT.out.mono ?_; rintro e wt ⟨rfl, rfl⟩)
    have HY7 := hid (HFY.out _ _ HL4.out)
    clear HMT c4
    refine wp_region_some (fun w' => w'.cell? ⟨b, 0, none⟩ = some (pt p 0) ∧ w'.cell? ⟨p, 1, none⟩ = some (.int .i64 K.delay)) [] (by kernel_rfl) ?_
    have hHeld := (show (fun w' => w'.cell? ⟨b, 0, none⟩ = some (pt p 0) ∧ w'.cell? ⟨p, 1, none⟩ = some (.int .i64 K.delay)) wt.drew from ⟨cb, c1⟩)
    refine wpAnyG_take (i := 0) (oi := { dst := some 70, op := Go.Op.load 24 (Go.Operand.tmp 3), type := 24, pos := "link.go:99", after := #[], guard := none }) (v := ?v4_0) (by kernel_rfl) rfl (by kernel_rfl) (by kernel_rfl) (by kernel_rfl) (by kernel_rfl) (fun _ _ _ h => h) (Or.inl ⟨by kernel_rfl, ?h4_0⟩) (by assumption) ?r4_0
    case h4_0 => (intro wt hSw; (try dsimp only at hSw); obtain ⟨s0, s1⟩ := hSw; go_simp; try rfl)
    simp only [Act.put, List.setIfInBounds_toArray, List.set_cons_zero, List.set_cons_succ]
    refine wpAnyG_take' (i := 1) (oi := { dst := some 71, op := Go.Op.nilCheck (Go.Operand.tmp 70), type := 0, pos := "link.go:99", after := #[{ on := 0, ground := Go.Ground.data }], guard := none }) (v := ?v4_1) rfl (by kernel_rfl) (by kernel_rfl) (by kernel_rfl) (fun _ _ _ h => h) (Or.inl ⟨by kernel_rfl, ?h4_1⟩) ?r4_1
    case h4_1 => (intro wt hSw; clear hSw; go_simp; try with_reducible rfl)
    simp only [Act.put, List.setIfInBounds_toArray, List.set_cons_zero, List.set_cons_succ]
    refine wpAnyG_take' (i := 2) (oi := { dst := some 72, op := Go.Op.fieldAddr 38 (Go.Operand.tmp 71) 3, type := 0, pos := "link.go:99", after := #[{ on := 1, ground := Go.Ground.data }], guard := none }) (v := ?v4_2) rfl (by kernel_rfl) (by kernel_rfl) (by kernel_rfl) (fun _ _ _ h => h) (Or.inl ⟨by kernel_rfl, ?h4_2⟩) ?r4_2
    case h4_2 => (intro wt hSw; clear hSw; go_simp; try with_reducible rfl)
    simp only [Act.put, List.setIfInBounds_toArray, List.set_cons_zero, List.set_cons_succ]
    refine wpAnyG_take' (i := 3) (oi := { dst := some 73, op := Go.Op.move (Go.Operand.tmp 6), type := 22, pos := "link.go:99", after := #[], guard := none }) (v := ?v4_3) rfl (by kernel_rfl) (by kernel_rfl) (by kernel_rfl) (fun _ _ _ h => h) (Or.inl ⟨by kernel_rfl, ?h4_3⟩) ?r4_3
    case h4_3 => (intro wt hSw; clear hSw; go_simp; try with_reducible rfl)
    simp only [Act.put, List.setIfInBounds_toArray, List.set_cons_zero, List.set_cons_succ]
    refine wpAnyG_take (i := 4) (oi := { dst := some 74, op := Go.Op.load 24 (Go.Operand.tmp 3), type := 24, pos := "link.go:99", after := #[], guard := none }) (v := ?v4_4) (by kernel_rfl) rfl (by kernel_rfl) (by kernel_rfl) (by kernel_rfl) (by kernel_rfl) (fun _ _ _ h => h) (Or.inl ⟨by kernel_rfl, ?h4_4⟩) (by assumption) ?r4_4
    case h4_4 => (intro wt hSw; (try dsimp only at hSw); obtain ⟨s0, s1⟩ := hSw; go_simp; try rfl)
    simp only [Act.put, List.setIfInBounds_toArray, List.set_cons_zero, List.set_cons_succ]
    refine wpAnyG_take' (i := 5) (oi := { dst := some 75, op := Go.Op.nilCheck (Go.Operand.tmp 74), type := 0, pos := "link.go:99", after := #[{ on := 4, ground := Go.Ground.data }], guard := none }) (v := ?v4_5) rfl (by kernel_rfl) (by kernel_rfl) (by kernel_rfl) (fun _ _ _ h => h) (Or.inl ⟨by kernel_rfl, ?h4_5⟩) ?r4_5
    case h4_5 => (intro wt hSw; clear hSw; go_simp; try with_reducible rfl)
    simp only [Act.put, List.setIfInBounds_toArray, List.set_cons_zero, List.set_cons_succ]
    refine wpAnyG_take' (i := 6) (oi := { dst := some 76, op := Go.Op.fieldAddr 38 (Go.Operand.tmp 75) 0, type := 0, pos := "link.go:99", after := #[{ on := 5, ground := Go.Ground.data }], guard := none }) (v := ?v4_6) rfl (by kernel_rfl) (by kernel_rfl) (by kernel_rfl) (fun _ _ _ h => h) (Or.inl ⟨by kernel_rfl, ?h4_6⟩) ?r4_6
    case h4_6 => (intro wt hSw; clear hSw; go_simp; try with_reducible rfl)
    simp only [Act.put, List.setIfInBounds_toArray, List.set_cons_zero, List.set_cons_succ]
    refine wpAnyG_take' (i := 7) (oi := { dst := some 77, op := Go.Op.fieldAddr 28 (Go.Operand.tmp 76) 1, type := 0, pos := "link.go:99", after := #[{ on := 6, ground := Go.Ground.data }], guard := none }) (v := ?v4_7) rfl (by kernel_rfl) (by kernel_rfl) (by kernel_rfl) (fun _ _ _ h => h) (Or.inl ⟨by kernel_rfl, ?h4_7⟩) ?r4_7
    case h4_7 => (intro wt hSw; clear hSw; go_simp; try with_reducible rfl)
    simp only [Act.put, List.setIfInBounds_toArray, List.set_cons_zero, List.set_cons_succ]
    refine wpAnyG_take (i := 8) (oi := { dst := some 78, op := Go.Op.load 3 (Go.Operand.tmp 77), type := 3, pos := "link.go:99", after := #[{ on := 7, ground := Go.Ground.data }], guard := none }) (v := ?v4_8) (by kernel_rfl) rfl (by kernel_rfl) (by kernel_rfl) (by kernel_rfl) (by kernel_rfl) (fun _ _ _ h => h) (Or.inl ⟨by kernel_rfl, ?h4_8⟩) (by assumption) ?r4_8
    case h4_8 => (intro wt hSw; (try dsimp only at hSw); obtain ⟨s0, s1⟩ := hSw; go_simp; try rfl)
    simp only [Act.put, List.setIfInBounds_toArray, List.set_cons_zero, List.set_cons_succ]
    refine wpAnyG_take' (i := 9) (oi := { dst := some 79, op := Go.Op.convert 3 22 (Go.Operand.tmp 78), type := 22, pos := "link.go:99", after := #[{ on := 8, ground := Go.Ground.data }], guard := none }) (v := .int .u64 K.delay) rfl (by kernel_rfl) (by kernel_rfl) (by kernel_rfl) (fun _ _ _ h => h) (Or.inl ⟨by kernel_rfl, ?h4_9⟩) ?r4_9
    case h4_9 => (intro wt hSw; clear hSw; go_simp; try (rw [IntKind.wrap_u64]; omega))
    simp only [Act.put, List.setIfInBounds_toArray, List.set_cons_zero, List.set_cons_succ]
    refine wpAnyG_take' (i := 10) (oi := { dst := some 80, op := Go.Op.binOp Go.BinOp.add 22 (Go.Operand.tmp 73) (Go.Operand.tmp 79) 22, type := 22, pos := "link.go:99", after := #[{ on := 3, ground := Go.Ground.data }, { on := 9, ground := Go.Ground.data }], guard := none }) (v := .int .u64 (o + K.delay)) rfl (by kernel_rfl) (by kernel_rfl) (by kernel_rfl) (fun _ _ _ h => h) (Or.inl ⟨by kernel_rfl, ?h4_10⟩) ?r4_10
    case h4_10 => (intro wt hSw; clear hSw; go_simp; try (rw [IntKind.wrap_u64]; omega))
    simp only [Act.put, List.setIfInBounds_toArray, List.set_cons_zero, List.set_cons_succ]
    refine wpAnyG_take' (i := 11) (oi := { dst := some 81, op := Go.Op.move (Go.Operand.tmp 7), type := 3, pos := "link.go:99", after := #[], guard := none }) (v := ?v4_11) rfl (by kernel_rfl) (by kernel_rfl) (by kernel_rfl) (fun _ _ _ h => h) (Or.inl ⟨by kernel_rfl, ?h4_11⟩) ?r4_11
    case h4_11 => (intro wt hSw; clear hSw; go_simp; try with_reducible rfl)
    simp only [Act.put, List.setIfInBounds_toArray, List.set_cons_zero, List.set_cons_succ]
    refine wpAnyG_take' (i := 12) (oi := { dst := some 82, op := Go.Op.convert 3 22 (Go.Operand.tmp 81), type := 22, pos := "link.go:99", after := #[{ on := 11, ground := Go.Ground.data }], guard := none }) (v := .int .u64 (jitE K num)) rfl (by kernel_rfl) (by kernel_rfl) (by kernel_rfl) (fun _ _ _ h => h) (Or.inl ⟨by kernel_rfl, ?h4_12⟩) ?r4_12
    case h4_12 => (intro wt hSw; clear hSw; go_simp; try (rw [IntKind.wrap_u64]; omega))
    simp only [Act.put, List.setIfInBounds_toArray, List.set_cons_zero, List.set_cons_succ]
    refine wpAnyG_take' (i := 13) (oi := { dst := some 83, op := Go.Op.binOp Go.BinOp.add 22 (Go.Operand.tmp 80) (Go.Operand.tmp 82) 22, type := 22, pos := "link.go:99", after := #[{ on := 10, ground := Go.Ground.data }, { on := 12, ground := Go.Ground.data }], guard := none }) (v := .int .u64 (o + K.delay + jitE K num)) rfl (by kernel_rfl) (by kernel_rfl) (by kernel_rfl) (fun _ _ _ h => h) (Or.inl ⟨by kernel_rfl, ?h4_13⟩) ?r4_13
    case h4_13 => (intro wt hSw; clear hSw; go_simp; try (rw [IntKind.wrap_u64]; omega))
    simp only [Act.put, List.setIfInBounds_toArray, List.set_cons_zero, List.set_cons_succ]
    refine wpAnyG_take' (i := 14) (oi := { dst := some 84, op := Go.Op.move (Go.Operand.tmp 1), type := 22, pos := "link.go:99", after := #[], guard := none }) (v := ?v4_14) rfl (by kernel_rfl) (by kernel_rfl) (by kernel_rfl) (fun _ _ _ h => h) (Or.inl ⟨by kernel_rfl, ?h4_14⟩) ?r4_14
    case h4_14 => (intro wt hSw; clear hSw; go_simp; try with_reducible rfl)
    simp only [Act.put, List.setIfInBounds_toArray, List.set_cons_zero, List.set_cons_succ]
    refine wpAnyG_take' (i := 15) (oi := { dst := some 85, op := Go.Op.move (Go.Operand.tmp 2), type := 23, pos := "link.go:99", after := #[], guard := none }) (v := ?v4_15) rfl (by kernel_rfl) (by kernel_rfl) (by kernel_rfl) (fun _ _ _ h => h) (Or.inl ⟨by kernel_rfl, ?h4_15⟩) ?r4_15
    case h4_15 => (intro wt hSw; clear hSw; go_simp; try with_reducible rfl)
    simp only [Act.put, List.setIfInBounds_toArray, List.set_cons_zero, List.set_cons_succ]
    refine wpAnyG_one (i := 16) (o := { dst := some 86, op := Go.Op.call { callee := Go.Callee.value (Go.Operand.func 37), args := #[Go.Operand.tmp 85], argTypes := #[23] }, type := 23, pos := "link.go:99", after := #[{ on := 15, ground := Go.Ground.data }], guard := none }) rfl (by kernel_rfl) (by kernel_rfl) ?_
    refine step_callxi (f := 37) (args := #[.slice a bs.length cap]) (by first | kernel_rfl | go_simp) ((clone_any (HY7.out.kept (below_drewN (Below.refl _ _) 1)) rfl (by omega)).mono (fun e w2 ⟨v, h1, h2, h3⟩ => (⟨v, h1, h2, h3⟩ : ∃ v, e = .returned v ∧ (OwnBy w2 wt.drew.heap.size v bs ∧ Below wt.drew.heap.size wt.drew w2)))) ?_
    rintro v8 w8 ⟨hO8, hB8⟩
    have hHeld8 := (show (fun w' => w'.cell? ⟨b, 0, none⟩ = some (pt p 0) ∧ w'.cell? ⟨p, 1, none⟩ = some (.int .i64 K.delay)) w8 from ⟨cell_kept hB8 hHeld.1, cell_kept hB8 hHeld.2⟩)
    obtain ⟨a8, c8, rfl, -⟩ := ownBy_shape hO8
    have HL8 : Hid (Lm p K w1 KT w8) := hid ((HL4.out.below (below_drewN (Below.refl _ _) 1)).below hB8)
    have HO8 := hid hO8
    have HS8 := hid hB8.size
    clear hO8 hB8
    refine ⟨fun _ _ => hHeld8, ?_⟩
    simp only [Act.put, List.setIfInBounds_toArray, List.set_cons_zero, List.set_cons_succ]
    refine wpAnyG_take' (i := 17) (oi := { dst := some 87, op := Go.Op.build 70 #[(0, Go.Operand.tmp 83), (1, Go.Operand.tmp 84), (2, Go.Operand.tmp 86)], type := 70, pos := "link.go:99", after := #[{ on := 13, ground := Go.Ground.data }, { on := 14, ground := Go.Ground.data }, { on := 16, ground := Go.Ground.data }], guard := none }) (v := .agg #[.int .u64 (o + K.delay + jitE K num), .int .u64 num, .slice a8 bs.length c8]) rfl (by kernel_rfl) (by kernel_rfl) (by kernel_rfl) (fun _ _ _ h => h) (Or.inl ⟨by kernel_rfl, ?h4_17⟩) ?r4_17
    case h4_17 => (intro wt hSw; clear hSw; go_simp; try with_reducible rfl)
    simp only [Act.put, List.setIfInBounds_toArray, List.set_cons_zero, List.set_cons_succ]
    refine wpAnyG_one (i := 18) (o := { dst := some 88, op := Go.Op.call { callee := Go.Callee.value (Go.Operand.func 36), args := #[Go.Operand.tmp 72, Go.Operand.tmp 87], argTypes := #[36, 70] }, type := 0, pos := "link.go:99", after := #[{ on := 2, ground := Go.Ground.data }, { on := 17, ground := Go.Ground.data }, { on := 16, ground := Go.Ground.chain }], guard := none }) rfl (by kernel_rfl) (by kernel_rfl) ?_
    have HPB := hid (push_b (x := ⟨o + K.delay + jitE K num, num, .slice a8 bs.length c8⟩) HL8.out.at_.hf HL8.out.at_.pf rfl (by rw [hkF]; exact hfl))
    refine step_callxi (f := 36) (args := #[pt p 14, .agg #[.int .u64 (o + K.delay + jitE K num), .int .u64 num, .slice a8 bs.length c8]]) (by first | kernel_rfl | go_simp) (HPB.out.mono (fun e w2 ⟨h1, h2⟩ => (⟨_, h1, rfl, h2⟩ : ∃ v, e = .returned v ∧ (v = .tuple #[] ∧ _)))) ?_
    rintro v9 w9 ⟨rfl, fv', L9, e1, e2, e3, e4, e5⟩
    rw [hkF] at e2
    have HL9 := hid (send_last HL8.out HO8.out hkF hkD (show w1.heap.size ≤ wt.drew.heap.size from HL4.out.fr.size) HKF.out hnum e1 e2 e3 e4 e5)
    have hHeld9 := (show (fun w' => w'.cell? ⟨b, 0, none⟩ = some (pt p 0) ∧ w'.cell? ⟨p, 1, none⟩ = some (.int .i64 K.delay)) w9 from ⟨(HFB.out _ _ HL9.out).cell 0 _ rfl, HL9.out.at_.row.cell 1 _ hk1⟩)
    refine ⟨fun _ _ => hHeld9, ?_⟩
    simp only [Act.put, List.setIfInBounds_toArray, List.set_cons_zero, List.set_cons_succ]
    refine wpAnyG_done (by kernel_rfl) ?_ _
    clear hHeld hHeld8 hHeld9
    go_wp2_with fail
    refine bodyPost_end (results_none Try.results23 _ _ _) rfl ?_
    have h9 := HL9.out
    rw [HEQ.out] at h9
    exact ⟨rfl, _, HEW.out _ _ h9, HS4.out _ _ _ e2⟩
end Go.Proofs.Ytoeldomhkeancaa
