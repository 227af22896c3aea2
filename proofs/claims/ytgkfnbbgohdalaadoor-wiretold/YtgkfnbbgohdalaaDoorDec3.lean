import Derived.Test.YtgkfnbbgohdalaaDoorDec2
namespace Go.Proofs.YtgkfnbbgohdalaaDoor
open Go.RowKit
set_option maxRecDepth 100000

/-- The cells of ranges. -/
def rcells (l : List (Nat × Nat)) : List Value := l.flatMap fun r => [.int .u64 (r.1 : Int), .int .u64 (r.2 : Int)]
theorem rcells_len (l : List (Nat × Nat)) : (rcells l).length = l.length * 2 := by
  induction l with
  | nil => rfl
  | cons r l ih => rw [show rcells (r :: l) = .int .u64 (r.1 : Int) :: .int .u64 (r.2 : Int) :: rcells l from rfl, List.length_cons, List.length_cons, ih, List.length_cons]; omega
theorem rcells_append (A B : List (Nat × Nat)) : rcells (A ++ B) = rcells A ++ rcells B := by simp [rcells]
theorem rcells_cons (r : Nat × Nat) (B : List (Nat × Nat)) : rcells (r :: B) = .int .u64 (r.1 : Int) :: .int .u64 (r.2 : Int) :: rcells B := by simp [rcells]
theorem rcells_get (l : List (Nat × Nat)) (k : Nat) (h : k < l.length) : (rcells l)[k * 2]? = some (.int .u64 ((l[k]).1 : Int)) ∧ (rcells l)[k * 2 + 1]? = some (.int .u64 ((l[k]).2 : Int)) := by
  induction l generalizing k with
  | nil => simp at h
  | cons r l ih =>
    rw [rcells_cons]
    cases k with
    | zero => exact ⟨rfl, rfl⟩
    | succ k =>
      have := ih k (by simpa using h)
      rw [show (k + 1) * 2 = k * 2 + 2 by omega]
      exact this
theorem rcells_set (A B : List (Nat × Nat)) (z r : Nat × Nat) (k : Nat) (hk : A.length = k) : ((rcells (A ++ z :: B)).set (k * 2) (.int .u64 (r.1 : Int))).set (k * 2 + 1) (.int .u64 (r.2 : Int)) = rcells (A ++ r :: B) := by
  subst hk
  rw [rcells_append, rcells_append, rcells_cons, rcells_cons, List.set_append_right _ _ (by rw [rcells_len]; omega), rcells_len, Nat.sub_self, List.set_append_right _ _ (by rw [rcells_len]; omega), rcells_len, show A.length * 2 + 1 - A.length * 2 = 1 by omega]
  rfl
theorem Row.ranges {w : World} {g t : Nat} {l : List (Nat × Nat)} (R : Row w g (rcells l) t) : RangesAt w (some ⟨g, 0, none⟩) l := fun k hk =>
  ⟨g, 0, rfl, by rw [Nat.zero_add]; exact R.cell _ _ (rcells_get l k hk).1, by rw [Nat.zero_add]; exact R.cell _ _ (rcells_get l k hk).2⟩
theorem made2 (n : Nat) : madeCells #[.int .u64 0, .int .u64 0] (n * 2) = (rcells (List.replicate n (0, 0))).toArray := by
  apply Array.ext_getElem?
  intro j
  by_cases h : j < n * 2
  · obtain ⟨q, r, hq, hr⟩ : ∃ q r, j = q * 2 + r ∧ r < 2 := ⟨j / 2, j % 2, by omega, by omega⟩
    have hg := rcells_get (List.replicate n (0, 0)) q (by simp; omega)
    have : r = 0 ∨ r = 1 := by omega
    rcases this with rfl | rfl
    · subst hq
      have e : q * 2 % 2 = 0 := by omega
      have h' : q * 2 < n * 2 := by omega
      rw [Nat.add_zero]
      simp only [List.getElem_replicate] at hg
      simp [madeCells, h', e, hg.1]
    · subst hq
      have e : (q * 2 + 1) % 2 = 1 := by omega
      simp only [List.getElem_replicate] at *
      simp [madeCells, h, e, hg.2]
  · rw [Array.getElem?_eq_none (by simp [madeCells]; omega), Array.getElem?_eq_none (by simp only [List.size_toArray, rcells_len, List.length_replicate]; omega)]
theorem info56 : ∃ i : TypeInfo, Tryd.prog.info? 56 = some i ∧ i.zero = some (.agg #[.int .u64 0, .int .u64 0]) ∧ i.size = 2 ∧ i.bytes = 16 := by
  have h : (Tryd.prog.info? 56).map (fun i => (i.zero, i.size, i.bytes)) = some (some (.agg #[.int .u64 0, .int .u64 0]), 2, 16) := by kernel_rfl
  cases hq : Tryd.prog.info? 56 with
  | none => rw [hq] at h; cases h
  | some i =>
    rw [hq] at h
    simp only [Option.map_some, Option.some.injEq, Prod.mk.injEq] at h
    exact ⟨i, rfl, h.1, h.2.1, h.2.2⟩
/-- make([]api.Range, n). -/
theorem wpMakeR {ops : Array Oper} {rest : List Oper} {o : Oper} {a : Act} {w : World} {Q : Exit → Act → World → Prop} (x y : Operand) (k : IntKind) (n : Nat) (hgd : o.guard = none) (ho : o.op = .makeSlice 24 x y) (hx : a.eval x = .int k (n : Int)) (hy : a.eval y = .int k (n : Int)) (hn : n ≤ 1048576)
    (h : ∀ w', Hid (w' = w.alloc (.cells (rcells (List.replicate n (0, 0))).toArray 56)) → wpList Tryd.prog ops Q rest (a.put o.dst (.slice (some ⟨w.heap.size, 0, none⟩) n n)) w') : wpList Tryd.prog ops Q (o :: rest) a w := by
  obtain ⟨i, h1, h2, h3, h4⟩ := info56
  have hr := run_make (P := Tryd.prog) w 24 56 i (.agg #[.int .u64 0, .int .u64 0]) Tryd.underlying24 h1 h2 k k (n : Int) (n : Int) (by omega) (by omega) (by rw [h4]; omega) (by omega)
  simp only [Int.toNat_natCast, h3, Value.cells, made2] at hr
  refine wpList_plain hgd fun K hK => ?_
  unfold Oper.wp execOp
  simp only [ho, hx, hy, Sem.run_bind, hr, Result.andThen_ok, Sem.run_pure]
  exact hK _ _ (h _ rfl)

def rAt (b : List (BitVec 8)) (k : Nat) : Nat × Nat := (val (cut b (16 * k) 8), val (cut b (16 * k + 8) 8))
theorem rangesN_snoc (k : Nat) (b : List (BitVec 8)) : rangesN (k + 1) b = rangesN k b ++ [rAt b k] := by
  induction k generalizing b with
  | zero => simp [rangesN, rAt, cut]
  | succ k ih =>
    rw [rangesN, ih, rangesN, List.cons_append]
    have : rAt (b.drop 16) k = rAt b (k + 1) := by
      unfold rAt cut
      rw [List.drop_drop, List.drop_drop, show 16 + 16 * k = 16 * (k + 1) by omega, show 16 + (16 * k + 8) = 16 * (k + 1) + 8 by omega]
    rw [this]
def rowR (b : List (BitVec 8)) (m k : Nat) : List (Nat × Nat) := rangesN k b ++ List.replicate (m - k) (0, 0)
theorem rowR_set (b : List (BitVec 8)) (m k : Nat) (h : k < m) : ((rcells (rowR b m k)).set (k * 2) (.int .u64 ((rAt b k).1 : Int))).set (k * 2 + 1) (.int .u64 ((rAt b k).2 : Int)) = rcells (rowR b m (k + 1)) := by
  unfold rowR
  obtain ⟨j, hj⟩ : ∃ j, m - k = j + 1 := ⟨m - k - 1, by omega⟩
  rw [hj, List.replicate_succ, rcells_set _ _ _ _ _ (rangesN_len k b), rangesN_snoc, List.append_assoc, show m - (k + 1) = j by omega]
  rfl
theorem rowR_len (b : List (BitVec 8)) (m k : Nat) (h : k ≤ m) : (rowR b m k).length = m := by
  unfold rowR; rw [List.length_append, rangesN_len, List.length_replicate]; omega

set_option maxHeartbeats 2000000 in
theorem ranges_any {w : World} {g o n cap m : Nat} {bs : List (BitVec 8)} (hB : BytesAt w (some ⟨g, o, none⟩) bs) (hn : bs.length = n) (hm : n = 16 * m) (hl : n ≤ 1048) (hcap : n < cap) :
    Calls Tryd.prog 44 #[.slice (some ⟨g, o, none⟩) n cap] w fun e w' => ∃ a' c', e = .returned (.slice a' m c') ∧ RangesAt w' a' (rangesN m bs) ∧ (∀ ad, a' = some ad → w.heap.size ≤ ad.block) ∧ Below w.heap.size w w' := by
  have HB : Hid (BytesAt w (some ⟨g, o, none⟩) bs) := hB
  have HN : Hid _ := hn
  have HM : Hid _ := hm
  have HL : Hid _ := hl
  have HC : Hid _ := hcap
  have q1 : (n : Int) / 16 = (m : Int) := by omega
  have q2 : (n : Int).tdiv 16 = (m : Int) := by rw [Int.tdiv_eq_ediv_of_nonneg (by omega)]; omega
  have q3 : (m : Int) ≤ 66 := by omega
  clear hB hn hm hl hcap
  go_enter Tryd.func44, Tryd.ntmps44
  go_wp2_with (at_make; refine wpMakeR (.tmp 8) (.tmp 8) .i64 m rfl rfl rfl rfl (by omega) ?_; intro w1 HW)
  have HR : Hid (Row w1 w.heap.size (rcells (rowR bs m 0)) 56) := by
    show Row _ _ _ _
    rw [HW.out]; exact Row.new' _ _ _ _ _ rfl (by simp [rowR, rangesN])
  have HB1 : Hid (Below w.heap.size w w1) := by show Below _ _ _; rw [HW.out]; exact (Below.refl _ _).alloc (Nat.le_refl _) _
  clear HW
  go_loopw [12] (fun i wr => ∃ k : Nat, k ≤ m ∧ i = .int .i64 k ∧ Row wr w.heap.size (rcells (rowR bs m k)) 56 ∧ Below w.heap.size w wr) (fun i _ => m - (intOf i).toNat)
  case atStart => exact ⟨0, Nat.zero_le _, rfl, HR.out, HB1.out⟩
  case round =>
    obtain ⟨k, hk, rfl, R, hb⟩ := hrel
    clear HR HB1
    by_cases hlt : k < m
    · have hki : (k : Int) < (m : Int) := by omega
      obtain ⟨j, hj⟩ : ∃ j, j = 16 * k := ⟨_, rfl⟩
      have j1 : (16 : Int) * (k : Int) = (j : Int) := by omega
      have j2 : (j : Int) ≤ (n : Int) := by have := HM.out; omega
      have j3 : ¬ cap = j := by have := HM.out; have := HC.out; omega
      have j4 : ¬ cap - j = 8 := by have := HM.out; have := HC.out; omega
      have j5 : (8 : Int) ≤ ((cap - j : Nat) : Int) := by have := HM.out; have := HC.out; omega
      have j6 : (16 : Int) ≤ ((cap - j : Nat) : Int) := by have := HM.out; have := HC.out; omega
      have hbk : BytesAt wr (some ⟨g, o, none⟩) bs := HB.out.kept hb
      have HN1 : Hid (∀ d, Calls Tryd.prog 42 #[.slice (some ⟨g, o + j, none⟩) 8 (cap - j)] { wr with drawn := d } fun e w' => e = .returned (.int .u64 ((rAt bs k).1 : Nat)) ∧ w' = { wr with drawn := d }) := fun d => by
        have : BytesAt { wr with drawn := d } (some ⟨g, o, none⟩) bs := hbk
        rw [show (rAt bs k).1 = val (cut bs j 8) by rw [hj]; rfl]
        exact number_any (this.cut j 8) (cut_len _ _ _ (by have := HM.out; have := HN.out; omega)) (by decide)
      have HN2 : Hid (∀ d, Calls Tryd.prog 42 #[.slice (some ⟨g, o + j + 8, none⟩) 8 (cap - j - 8)] { wr with drawn := d } fun e w' => e = .returned (.int .u64 ((rAt bs k).2 : Nat)) ∧ w' = { wr with drawn := d }) := fun d => by
        have : BytesAt { wr with drawn := d } (some ⟨g, o, none⟩) bs := hbk
        rw [show (rAt bs k).2 = val (cut bs (j + 8) 8) by rw [hj]; rfl, Nat.add_assoc]
        exact number_any (this.cut (j + 8) 8) (cut_len _ _ _ (by have := HM.out; have := HN.out; omega)) (by decide)
      have f0 := R.frozen (k * 2)
      have f1 := R.frozen (k * 2 + 1)
      have hg := rcells_get (rowR bs m k) k (by rw [rowR_len _ _ _ hk]; exact hlt)
      have c0 := R.cell _ _ hg.1
      have c1 := R.cell _ _ hg.2
      have HS : Hid _ := rowR_set bs m k hlt
      have HRk : Hid _ := R
      have HBk : Hid _ := hb
      clear R hb hbk hj hg
      generalize (rAt bs k).1 = x at *
      generalize (rAt bs k).2 = y at *
      go_wp2
      go_region_with (first
        | (go_at_call_of 42 (Value.slice (some ⟨g, o + j, none⟩) 8 (cap - j)); refine (HN1.out _).mono ?_; rintro e w' ⟨rfl, rfl⟩)
        | (go_at_call 42; go_loud (refine (HN2.out _).mono ?_; rintro e w' ⟨rfl, rfl⟩)))
      all_goals
        go_wp2
        go_roundw
        case rel =>
          refine ⟨k + 1, hlt, by go_num, ?_, ?_⟩
          · have hr := (HRk.out.set (k * 2) (.int .u64 (x : Int))).set (k * 2 + 1) (.int .u64 (y : Int))
            rw [HS.out] at hr
            exact hr.drawn _
          · exact below_drawn ((HBk.out.setCell (Nat.le_refl _) _).setCell (Nat.le_refl _) _) _
        case measure => simp [intOf]; omega
    · have e : k = m := by omega
      subst e
      have HRk : Hid _ := R
      have HBk : Hid _ := hb
      clear R hb
      go_wp2
      go_ret
      refine ⟨_, _, rfl, ?_, fun _ h => by cases h; exact Nat.le_refl _, HBk.out⟩
      have := HRk.out.ranges
      rw [rowR, Nat.sub_self, List.replicate_zero, List.append_nil] at this
      exact this

theorem BytesAt.oth {w : World} {a : Option Addr} {bs : List (BitVec 8)} {q : Nat} (h : BytesAt w a bs) (hne : ∀ ad, a = some ad → ad.block ≠ q) (j : Nat) (v : Value) : BytesAt (w.setCell ⟨q, j, none⟩ v) a bs := fun k hk => by
  obtain ⟨g, o, e, c⟩ := h k hk
  exact ⟨g, o, e, ((Only.refl q w).setCell j v).cell c (show g ≠ q from hne ⟨g, o, none⟩ e)⟩
theorem RangesAt.oth {w : World} {a : Option Addr} {l : List (Nat × Nat)} {q : Nat} (h : RangesAt w a l) (hne : ∀ ad, a = some ad → ad.block ≠ q) (j : Nat) (v : Value) : RangesAt (w.setCell ⟨q, j, none⟩ v) a l := fun k hk => by
  obtain ⟨g, o, e, c, d⟩ := h k hk
  exact ⟨g, o, e, ((Only.refl q w).setCell j v).cell c (show g ≠ q from hne ⟨g, o, none⟩ e), ((Only.refl q w).setCell j v).cell d (show g ≠ q from hne ⟨g, o, none⟩ e)⟩
theorem BytesAt.row {w : World} {a : Option Addr} {bs : List (BitVec 8)} {q : Nat} (h : BytesAt w a bs) (hne : ∀ ad, a = some ad → ad.block ≠ q) (cs : Array Value) : BytesAt (w.setRow q cs) a bs := fun k hk => by
  obtain ⟨g, o, e, c⟩ := h k hk
  exact ⟨g, o, e, ((Only.refl q w).setRow cs).cell c (show g ≠ q from hne ⟨g, o, none⟩ e)⟩
theorem RangesAt.row {w : World} {a : Option Addr} {l : List (Nat × Nat)} {q : Nat} (h : RangesAt w a l) (hne : ∀ ad, a = some ad → ad.block ≠ q) (cs : Array Value) : RangesAt (w.setRow q cs) a l := fun k hk => by
  obtain ⟨g, o, e, c, d⟩ := h k hk
  exact ⟨g, o, e, ((Only.refl q w).setRow cs).cell c (show g ≠ q from hne ⟨g, o, none⟩ e), ((Only.refl q w).setRow cs).cell d (show g ≠ q from hne ⟨g, o, none⟩ e)⟩
end Go.Proofs.YtgkfnbbgohdalaaDoor
