import Derived.Test.YtimiokbnhneggaaS2b
import Derived.Deep.CutRange
import Derived.Deep.CutBlock
namespace Go.Proofs.Ytimiokbnhneggaa
open Go.RowKit Go.Maps Go.Sort
set_option maxRecDepth 100000

/-- How many of m numbers from a on are not there. -/
def cntN (L : List Rg) (a : Int) : Nat → Nat
  | 0 => 0
  | m + 1 => cntN L a m + (if memb L (a + m) then 0 else 1)
theorem cntN_le (L : List Rg) (a : Int) : ∀ m, cntN L a m ≤ m
  | 0 => Nat.le_refl _
  | m + 1 => by have := cntN_le L a m; simp only [cntN]; split <;> omega
theorem fresh_cnt {L : List Rg} (F : Fit L) (a : Int) (h0 : 0 ≤ a) : ∀ m : Nat, a + m ≤ 18446744073709551615 → freshOf L (a, a + m) = cntN L a m
  | 0, _ => by unfold freshOf; rw [if_pos (by simp)]; rfl
  | m + 1, h => by
    have ih := fresh_cnt F a h0 m (by omega)
    have t1 := addL_total F (a, a + ((m + 1 : Nat) : Int)) h0 h
    have t2 := addL_total F (a, a + (m : Int)) h0 (by simp; omega)
    have f1 := addL_fit F (a, a + ((m + 1 : Nat) : Int)) h0 h
    have f2 := addL_fit F (a, a + (m : Int)) h0 (by simp; omega)
    simp only [cntN]
    by_cases hm : mem L (a + m)
    · rw [if_pos ((memb_iff L _).2 hm)]
      have e := total_sum f1.rise rise_nil f2.rise rise_nil (fun y => by
        have i1 : mem (addL L (a, a + ((m + 1 : Nat) : Int))) y ↔ mem (addL L (a, a + (m : Int))) y := by
          rw [addL_mem F, addL_mem F]
          simp only
          constructor
          · rintro (e | e)
            · exact .inl e
            · by_cases hy : y = a + m
              · subst hy; exact .inl hm
              · right; omega
          · rintro (e | e)
            · exact .inl e
            · right; omega
        by_cases h1 : mem (addL L (a, a + (m : Int))) y
        · rw [ind_yes h1, ind_yes (i1.2 h1)]
        · rw [ind_no h1, ind_no (fun e => h1 (i1.1 e))])
      omega
    · rw [if_neg (fun e => hm ((memb_iff L _).1 e))]
      have e := total_sum f1.rise rise_nil f2.rise (rise_one (r := (a + (m : Int), a + (m : Int) + 1)) (by simp; omega)) (fun y => by
        have h00 : ind [] y = 0 := rfl
        rw [h00]
        by_cases hy : y = a + m
        · subst hy
          have n2 : ¬ mem (addL L (a, a + (m : Int))) (a + m) := by
            rw [addL_mem F]
            simp only
            rintro (e | e)
            · exact hm e
            · omega
          have y1 : mem (addL L (a, a + ((m + 1 : Nat) : Int))) (a + m) := by rw [addL_mem F]; right; simp only; omega
          rw [ind_yes y1, ind_no n2, ind_yes (cmem_one.2 (by simp only; omega))]; rfl
        · have n1 : ¬ mem [(a + (m : Int), a + (m : Int) + 1)] y := by rw [cmem_one]; simp only; omega
          rw [ind_no n1]
          have i1 : mem (addL L (a, a + ((m + 1 : Nat) : Int))) y ↔ mem (addL L (a, a + (m : Int))) y := by
            rw [addL_mem F, addL_mem F]
            simp only
            constructor
            · rintro (e | e)
              · exact .inl e
              · right; omega
            · rintro (e | e)
              · exact .inl e
              · right; omega
          by_cases h1 : mem (addL L (a, a + (m : Int))) y
          · rw [ind_yes h1, ind_yes (i1.2 h1)]
          · rw [ind_no h1, ind_no (fun e => h1 (i1.1 e))])
      simp only [total] at e
      omega
/-- What the law's books say: which numbers have come, and what the first one told of them. -/
structure FstI (n : Nat) (F : Bf) (f : Int → BitVec 8) (h : Nat → Bool) (g : Nat → BitVec 8) (i : Nat) : Prop where
  bs : F.base = 0
  rd : F.read = 0
  rm : F.room = (n : Int) + 1
  gp : F.gaps = 64
  en : F.ends = false
  few : F.L.length ≤ i
  inn : ∀ x, mem F.L x → 0 ≤ x ∧ x < n
  has : ∀ x : Nat, h x = memb F.L x
  wnt : ∀ x : Nat, memb F.L x = true → g x = f x
/-- Within a piece of which the first j bytes are booked. -/
structure FstJ (L : List Rg) (f : Int → BitVec 8) (h0 h : Nat → Bool) (g : Nat → BitVec 8) (d : List (BitVec 8)) (fr j : Nat) : Prop where
  has : ∀ x : Nat, h x = (memb L x || (decide (fr ≤ x) && decide (x < fr + j)))
  old : ∀ x : Nat, memb L x = true → g x = f x
  new : ∀ x : Nat, memb L x = false → fr ≤ x → x < fr + j → some (g x) = d[x - fr]?
theorem FstI.take {n : Nat} {F : Bf} {f : Int → BitVec 8} {h : Nat → Bool} {g : Nat → BitVec 8} {i : Nat} (I : FstI n F f h g i) (ok : F.Ok) (hi : i < 60) {fr ln : Nat} (hl : fr + ln ≤ n) (hn : n ≤ 1073741823) :
    (ln ≠ 0 → F.refuses fr ln = 0 ∧ F.tkn fr ln = cntN F.L fr ln) ∧ (ln = 0 → F.refuses fr ln = 82 ∧ F.tkn fr ln = 0) := by
  refine ⟨fun hz => ?_, fun hz => ?_⟩
  · have he : F.edge = (n : Int) + 1 := by unfold Bf.edge; rw [I.rd, I.rm]; omega
    have hc : F.crowds fr ln = false := by
      unfold Bf.crowds
      split
      · rfl
      · have h1 := addL_length ok.fit ((fr : Int), (fr : Int) + ln)
        have h2 := I.few
        have h3 := I.gp
        simp only [decide_eq_false_iff_not]
        split <;> omega
    have hr : F.refuses fr ln = 0 := by
      unfold Bf.refuses
      rw [if_neg (by omega), if_neg (by omega), if_neg (by rw [I.en]; simp), if_neg (by rw [hc]; simp)]
    refine ⟨hr, ?_⟩
    unfold Bf.tkn
    rw [if_pos hr]
    have e : F.rg fr ln = ((fr : Int), (fr : Int) + ln) := by unfold Bf.rg; rw [I.rd]; simp
    rw [e]
    exact fresh_cnt ok.fit fr (by omega) ln (by omega)
  · have hr : F.refuses fr ln = 82 := by unfold Bf.refuses; rw [if_pos (by omega)]
    refine ⟨hr, ?_⟩
    unfold Bf.tkn
    rw [hr, if_neg (by decide)]
/-- Behind a whole piece. -/
theorem FstI.next {n : Nat} {F : Bf} {f : Int → BitVec 8} {h0 h : Nat → Bool} {g0 g : Nat → BitVec 8} {i : Nat} (I : FstI n F f h0 g0 i) (ok : F.Ok) {fr ln : Nat} (hl : fr + ln ≤ n) {d : List (BitVec 8)} (hd : d.length = ln) (hr : ln ≠ 0 → F.refuses fr ln = 0) (hr' : ln = 0 → F.refuses fr ln = 82) (J : FstJ F.L f h0 h g d fr ln) :
    FstI n (F.tk fr ln) (F.tkf f fr d) h g (i + 1) := by
  by_cases hz : ln = 0
  · have h1 := hr' hz
    have e1 : F.tk fr ln = F := by unfold Bf.tk; rw [h1, if_neg (by decide)]
    have e2 : F.tkf f fr d = f := by unfold Bf.tkf; rw [hd, h1, if_neg (by decide)]
    rw [e1, e2]
    refine ⟨I.bs, I.rd, I.rm, I.gp, I.en, by have := I.few; omega, I.inn, fun x => ?_, J.old⟩
    rw [J.has, show (decide (fr ≤ x) && decide (x < fr + ln)) = false by subst hz; simp, Bool.or_false]
  · have h1 := hr hz
    have e1 : F.tk fr ln = F.took fr ln := by unfold Bf.tk; rw [if_pos h1]
    have e2 : F.tkf f fr d = F.new f fr d := by unfold Bf.tkf; rw [hd, if_pos h1]
    have e3 : (F.took fr ln).L = addL F.L ((fr : Int), (fr : Int) + ln) := by unfold Bf.took Bf.rg; rw [I.rd]; simp
    rw [e1, e2]
    have hm : ∀ y : Int, mem (F.took fr ln).L y ↔ mem F.L y ∨ ((fr : Int) ≤ y ∧ y < (fr : Int) + ln) := fun y => by rw [e3]; exact addL_mem ok.fit _ y
    refine ⟨I.bs, I.rd, I.rm, I.gp, I.en, ?_, fun x hx => ?_, fun x => ?_, fun x hx => ?_⟩
    · rw [e3]
      have := addL_length ok.fit ((fr : Int), (fr : Int) + ln)
      have := I.few
      omega
    · rcases (hm x).1 hx with e | e
      · exact I.inn x e
      · omega
    · rw [J.has, Bool.eq_iff_iff, memb_iff, hm, Bool.or_eq_true, memb_iff, Bool.and_eq_true, decide_eq_true_eq, decide_eq_true_eq]
      constructor
      · rintro (e | e)
        · exact .inl e
        · right; omega
      · rintro (e | e)
        · exact .inl e
        · right; omega
    · rw [memb_iff, hm] at hx
      unfold Bf.new
      by_cases hmm : mem F.L x
      · rw [if_pos ((gap_iff ok.fit x).2 hmm)]
        exact J.old x ((memb_iff _ _).2 hmm)
      · rw [if_neg (fun e => hmm ((gap_iff ok.fit x).1 e))]
        rcases hx with e | e
        · exact absurd e hmm
        · have hb : memb F.L x = false := by rw [← Bool.not_eq_true, memb_iff]; exact hmm
          have h2 := J.new x hb (by omega) (by omega)
          rw [show ((x : Int) - fr).toNat = x - fr by omega, ← h2]
          rfl
theorem FstI.start {n : Nat} {F : Bf} {f : Int → BitVec 8} {h : Nat → Bool} {g : Nat → BitVec 8} {i : Nat} (I : FstI n F f h g i) (d : List (BitVec 8)) (fr : Nat) : FstJ F.L f h h g d fr 0 :=
  ⟨fun x => by rw [I.has, show (decide (fr ≤ x) && decide (x < fr + 0)) = false by simp, Bool.or_false], I.wnt, fun x _ h1 h2 => by omega⟩
def upB (h : Nat → Bool) (x : Nat) : Nat → Bool := fun y => if y = x then true else h y
def upW (g : Nat → BitVec 8) (x : Nat) (c : BitVec 8) : Nat → BitVec 8 := fun y => if y = x then c else g y
theorem FstJ.skip {L : List Rg} {f : Int → BitVec 8} {h0 h : Nat → Bool} {g : Nat → BitVec 8} {d : List (BitVec 8)} {fr j : Nat} (J : FstJ L f h0 h g d fr j) (hh : h (fr + j) = true) : memb L ((fr : Int) + (j : Int)) = true ∧ FstJ L f h0 h g d fr (j + 1) := by
  have h1 := J.has (fr + j)
  rw [hh, show (decide (fr ≤ fr + j) && decide (fr + j < fr + j)) = false by simp, Bool.or_false] at h1
  have h2 : memb L ((fr + j : Nat) : Int) = true := h1.symm
  refine ⟨by rw [← h2]; congr 1, fun x => ?_, J.old, fun x hx h3 h4 => ?_⟩
  · rw [J.has]
    by_cases e : x = fr + j
    · subst e; rw [h2]; simp
    · congr 2
      simp only [decide_eq_decide]
      omega
  · have : x ≠ fr + j := fun e => by subst e; rw [h2] at hx; cases hx
    exact J.new x hx h3 (by omega)
theorem FstJ.put {L : List Rg} {f : Int → BitVec 8} {h0 h : Nat → Bool} {g : Nat → BitVec 8} {d : List (BitVec 8)} {fr j : Nat} (J : FstJ L f h0 h g d fr j) (hh : h (fr + j) = false) (c : BitVec 8) (hc : d[j]? = some c) : memb L ((fr : Int) + (j : Int)) = false ∧ FstJ L f h0 (upB h (fr + j)) (upW g (fr + j) c) d fr (j + 1) := by
  have h1 := J.has (fr + j)
  rw [hh, show (decide (fr ≤ fr + j) && decide (fr + j < fr + j)) = false by simp, Bool.or_false] at h1
  have h2 : memb L ((fr + j : Nat) : Int) = false := h1.symm
  refine ⟨by rw [← h2]; congr 1, fun x => ?_, fun x hx => ?_, fun x hx h3 h4 => ?_⟩
  · unfold upB
    by_cases e : x = fr + j
    · subst e; simp
    · rw [if_neg e, J.has]
      congr 2
      simp only [decide_eq_decide]
      omega
  · have : x ≠ fr + j := fun e => by subst e; rw [h2] at hx; cases hx
    unfold upW
    rw [if_neg this]
    exact J.old x hx
  · unfold upW
    by_cases e : x = fr + j
    · subst e; rw [if_pos rfl, Nat.add_sub_cancel_left, hc]
    · rw [if_neg e]; exact J.new x hx h3 (by omega)
/-- What Read gives at the end: all up to the first number that has not come. -/
theorem FstI.read {n : Nat} {F : Bf} {f : Int → BitVec 8} {h : Nat → Bool} {g : Nat → BitVec 8} {i : Nat} (I : FstI n F f h g i) (ok : F.Ok) {k : Nat} (hk : ∀ x, x < k → h x = true) (hkn : k ≤ n) (hke : k = n ∨ h k = false) :
    F.rdB f ((n : Int) + 5) = (List.range k).map g ∧ (decide (F.gap = F.read) && F.done) = false := by
  have hg : F.gap = k := by
    obtain ⟨g1, g2, _⟩ := gap_edge ok
    have hrd := I.rd
    have n1 : ¬ mem F.L F.gap := gap_not ok.fit F.read
    have a1 : ∀ y : Int, 0 ≤ y → y < F.gap → mem F.L y := fun y h0 h1 => gap_all ok.fit F.read y (by omega) h1
    have hgn : F.gap ≤ n := by
      by_cases e : F.gap = 0
      · omega
      · have := (I.inn _ (a1 (F.gap - 1) (by omega) (by omega))).2; omega
    by_cases h1 : F.gap < k
    · have h2 := hk F.gap.toNat (by omega)
      rw [I.has, memb_iff, show (F.gap.toNat : Int) = F.gap by omega] at h2
      exact absurd h2 n1
    · by_cases h3 : (k : Int) < F.gap
      · have h4 := a1 k (by omega) h3
        rcases hke with e | e
        · omega
        · rw [I.has, ← Bool.not_eq_true, memb_iff] at e
          exact absurd h4 e
      · omega
  refine ⟨?_, by unfold Bf.done; rw [I.en]; simp⟩
  unfold Bf.rdB
  by_cases hz : F.gap = F.read
  · rw [if_pos (.inr hz)]
    have : k = 0 := by have := I.rd; omega
    subst this
    rfl
  · rw [if_neg (by omega)]
    have hc : F.cnt ((n : Int) + 5) = k := by unfold Bf.cnt; rw [hg, I.rd]; omega
    rw [hc, I.rd]
    unfold bytesFrom
    apply List.map_congr_left
    intro x hx
    have hx' : x < k := by simpa using hx
    have := hk x hx'
    rw [I.has] at this
    rw [I.wnt x this]
    congr 1
    omega
theorem range_set {α : Type} (n : Nat) (g : Nat → α) (x : Nat) (c : α) : ((List.range n).map g).set x c = (List.range n).map (fun y => if y = x then c else g y) := by
  apply List.ext_getElem
  · simp
  · intro i h1 h2
    simp only [List.getElem_set, List.getElem_map, List.getElem_range]
    by_cases e : x = i
    · subst e; simp
    · rw [if_neg e, if_neg (fun e' => e e'.symm)]
end Go.Proofs.Ytimiokbnhneggaa
namespace Go.Proofs.Ytimiokbnhneggaa
open Go.RowKit Go.Maps Go.Sort
set_option maxRecDepth 100000

theorem min3 (w : World) (a b c : Int) : (Builtin.min_ #[3, 3, 3] 3 #[.int .i64 a, .int .i64 b, .int .i64 c]).run Try.prog w = .ok (.int .i64 (min (min a b) c)) w := by
  have e1 : ∀ x y : Int, (if y < x then y else x) = min x y := fun x y => by rw [Int.min_def]; split <;> split <;> omega
  simp [Builtin.min_, Builtin.min2, e1]
/-- A row of flags. -/
def hcells (n : Nat) (h : Nat → Bool) : List Value := (List.range n).map fun x => .bool (h x)
theorem hcells_get {n x : Nat} (h : Nat → Bool) (hx : x < n) : (hcells n h)[x]? = some (.bool (h x)) := by simp [hcells, hx]
theorem hcells_set (n : Nat) (h : Nat → Bool) (x : Nat) : (hcells n h).set x (.bool true) = hcells n (upB h x) := by
  unfold hcells
  rw [range_set]
  apply List.map_congr_left
  intro y _
  unfold upB
  split <;> rfl
theorem wcells_get {n x : Nat} (g : Nat → BitVec 8) (hx : x < n) : (bcells ((List.range n).map g))[x]? = some (.int .u8 (ub (g x))) := by
  rw [bcells_get (by simpa using hx)]
  simp
theorem wcells_set (n : Nat) (g : Nat → BitVec 8) (x : Nat) (c : BitVec 8) : (bcells ((List.range n).map g)).set x (.int .u8 (ub c)) = bcells ((List.range n).map (upW g x c)) := by
  rw [bcells_set, range_set]
  rfl
theorem info4 : ∃ i : TypeInfo, Try.prog.info? 4 = some i ∧ i.zero = some (.bool false) ∧ i.size = 1 ∧ i.bytes = 1 := by
  have h : (Try.prog.info? 4).map (fun i => (i.zero, i.size, i.bytes)) = some (some (.bool false), 1, 1) := by kernel_rfl
  cases hq : Try.prog.info? 4 with
  | none => rw [hq] at h; cases h
  | some i => rw [hq] at h; simp at h; exact ⟨i, rfl, h.1, h.2.1, h.2.2⟩
theorem madeF (n : Nat) : madeCells #[.bool false] n = (hcells n fun _ => false).toArray := by
  apply Array.ext_getElem?
  intro j
  by_cases h : j < n
  · simp [madeCells, hcells, h, Nat.mod_one]
  · simp [madeCells, hcells, h]
theorem make_has (w : World) (n : Nat) (hn : n ≤ 140737488355328) : (Instr.makeSlice 29 (.int .i64 (n : Int)) (.int .i64 (n : Int))).run Try.prog w = .ok (.slice (some ⟨w.heap.size, 0, none⟩) n n) (w.alloc (.cells (hcells n fun _ => false).toArray 4)) := by
  obtain ⟨i, h1, h2, h3, h4⟩ := info4
  have hr := run_make (P := Try.prog) w 29 4 i (.bool false) Try.underlying29 h1 h2 .i64 .i64 (n : Int) (n : Int) (by omega) (by omega) (by rw [h4]; omega) (by omega)
  simp only [Int.toNat_natCast, h3, Nat.mul_one, Value.cells, madeF] at hr
  exact hr
theorem make_want (w : World) (n : Nat) (hn : n ≤ 140737488355328) : (Instr.makeSlice 22 (.int .i64 (n : Int)) (.int .i64 (n : Int))).run Try.prog w = .ok (.slice (some ⟨w.heap.size, 0, none⟩) n n) (w.alloc (.cells (bcells ((List.range n).map fun _ => 0#8)).toArray 5)) := by
  rw [make_run w n hn]
  congr 4
  unfold z
  congr 1
  apply List.ext_getElem
  · simp
  · intro i h1 h2; simp
/-- The loop's state. -/
structure FL (w wr : World) (p n : Nat) (F : Bf) (f : Int → BitVec 8) (S : Nat → Prop) (gw gh : Nat) (h : Nat → Bool) (g : Nat → BitVec 8) (i : Nat) : Prop where
  buf : Buf wr p F f S
  st : FstI n F f h g i
  rw' : Row wr gw (bcells ((List.range n).map g)) 5
  rh : Row wr gh (hcells n h) 4
  sb : ∀ x, S x → w.heap.size ≤ x ∧ x < wr.heap.size
  aw : w.heap.size ≤ gw ∧ ¬ S gw
  ah : w.heap.size ≤ gh ∧ ¬ S gh
  bel : Below w.heap.size w wr
/-- Within a piece: the buffer has it already. -/
structure FJ (w wr : World) (p n : Nat) (F : Bf) (f : Int → BitVec 8) (S : Nat → Prop) (gw gh : Nat) (L : List Rg) (f0 : Int → BitVec 8) (h0 h : Nat → Bool) (g : Nat → BitVec 8) (d : List (BitVec 8)) (fr j : Nat) : Prop where
  buf : Buf wr p F f S
  st : FstJ L f0 h0 h g d fr j
  rw' : Row wr gw (bcells ((List.range n).map g)) 5
  rh : Row wr gh (hcells n h) 4
  sb : ∀ x, S x → w.heap.size ≤ x ∧ x < wr.heap.size
  aw : w.heap.size ≤ gw ∧ ¬ S gw
  ah : w.heap.size ≤ gh ∧ ¬ S gh
  bel : Below w.heap.size w wr
theorem FL.kept {w wr w' : World} {p n : Nat} {F : Bf} {f : Int → BitVec 8} {S : Nat → Prop} {gw gh : Nat} {h : Nat → Bool} {g : Nat → BitVec 8} {i : Nat} (H : FL w wr p n F f S gw gh h g i) (hb : Below wr.heap.size wr w') : FL w w' p n F f S gw gh h g i :=
  ⟨H.buf.kept hb, H.st, H.rw'.kept hb H.rw'.lt, H.rh.kept hb H.rh.lt, fun x hx => ⟨(H.sb x hx).1, Nat.lt_of_lt_of_le (H.sb x hx).2 hb.size⟩, H.aw, H.ah, H.bel.trans (hb.mono H.bel.size)⟩
theorem FL.take {w wr w' : World} {p n : Nat} {F F' : Bf} {f f' : Int → BitVec 8} {S S' : Nat → Prop} {gw gh : Nat} {h : Nat → Bool} {g : Nat → BitVec 8} {i : Nat} (H : FL w wr p n F f S gw gh h g i) (hB : Buf w' p F' f' S') (hf : Fr S wr w') (hS : ∀ x, S' x → S x ∨ wr.heap.size ≤ x) (d : List (BitVec 8)) (fr : Nat) :
    FJ w w' p n F' f' (fun x => S' x ∧ x < w'.heap.size) gw gh F.L f h h g d fr 0 := by
  have hno : ∀ gg, gg < wr.heap.size → ¬ S gg → ¬ (S' gg ∧ gg < w'.heap.size) := fun gg h1 h2 e => by
    rcases hS gg e.1 with e | e
    · exact h2 e
    · omega
  refine ⟨hB.tight, H.st.start d fr, hf.row H.rw' H.aw.2, hf.row H.rh H.ah.2, fun x hx => ⟨?_, hx.2⟩, ⟨H.aw.1, hno _ H.rw'.lt H.aw.2⟩, ⟨H.ah.1, hno _ H.rh.lt H.ah.2⟩, H.bel.trans (hf.below (fun x hx => (H.sb x hx).1) H.bel.size)⟩
  rcases hS x hx.1 with e | e
  · exact (H.sb x e).1
  · exact Nat.le_trans H.bel.size e
theorem row_ne {w : World} {a b : Nat} {c d : List Value} {s t : TypeId} (h1 : Row w a c s) (h2 : Row w b d t) (hst : s ≠ t) : a ≠ b := fun e => by
  subst e
  have := h1.at_.symm.trans h2.at_
  simp only [Option.some.injEq, Obj.cells.injEq] at this
  exact hst this.2.1
section
variable {w wr : World} {p n : Nat} {F : Bf} {f : Int → BitVec 8} {S : Nat → Prop} {gw gh : Nat} {L : List Rg} {f0 : Int → BitVec 8} {h0 h : Nat → Bool} {g : Nat → BitVec 8} {d : List (BitVec 8)} {fr j : Nat}
theorem FJ.skip (H : FJ w wr p n F f S gw gh L f0 h0 h g d fr j) (hh : h (fr + j) = true) : FJ w wr p n F f S gw gh L f0 h0 h g d fr (j + 1) :=
  ⟨H.buf, (H.st.skip hh).2, H.rw', H.rh, H.sb, H.aw, H.ah, H.bel⟩
theorem FJ.put (H : FJ w wr p n F f S gw gh L f0 h0 h g d fr j) (hh : h (fr + j) = false) (c : BitVec 8) (hc : d[j]? = some c) :
    FJ w ((wr.setCell ⟨gh, fr + j, none⟩ (.bool true)).setCell ⟨gw, fr + j, none⟩ (.int .u8 (ub c))) p n F f S gw gh L f0 h0 (upB h (fr + j)) (upW g (fr + j) c) d fr (j + 1) := by
  have hne : gw ≠ gh := row_ne H.rw' H.rh (by decide)
  have r1 : Row (wr.setCell ⟨gh, fr + j, none⟩ (.bool true)) gh (hcells n (upB h (fr + j))) 4 := by rw [← hcells_set]; exact H.rh.set _ _
  have r2 := H.rw'.setOther ⟨gh, fr + j, none⟩ hne (.bool true)
  have f1 : Fr (fun x => x = gh) wr (wr.setCell ⟨gh, fr + j, none⟩ (.bool true)) := ⟨rfl, rfl, rfl, by simp [World.setCell], fun k _ hk => Below.heap_setCell wr _ _ k hk⟩
  have f2 : Fr (fun x => x = gw) (wr.setCell ⟨gh, fr + j, none⟩ (.bool true)) ((wr.setCell ⟨gh, fr + j, none⟩ (.bool true)).setCell ⟨gw, fr + j, none⟩ (.int .u8 (ub c))) := ⟨rfl, rfl, rfl, by simp [World.setCell], fun k _ hk => Below.heap_setCell _ _ _ k hk⟩
  have b1 := H.buf.apart f1 (fun k hk e => by subst e; exact H.ah.2 hk)
  refine ⟨b1.apart f2 (fun k hk e => by subst e; exact H.aw.2 hk), (H.st.put hh c hc).2, ?_, r1.setOther _ hne.symm _, fun x hx => ⟨(H.sb x hx).1, by simpa [World.setCell] using (H.sb x hx).2⟩, H.aw, H.ah, (H.bel.setCell H.ah.1 _).setCell H.aw.1 _⟩
  rw [← wcells_set]
  exact r2.set _ _
theorem FJ.done {i ln : Nat} (H : FJ w wr p n (F.tk fr ln) (F.tkf f0 fr d) S gw gh F.L f0 h0 h g d fr ln) {g0 : Nat → BitVec 8} (I : FstI n F f0 h0 g0 i) (ok : F.Ok) (hl : fr + ln ≤ n) (hd : d.length = ln) (hr : ln ≠ 0 → F.refuses fr ln = 0) (hr' : ln = 0 → F.refuses fr ln = 82) :
    FL w wr p n (F.tk fr ln) (F.tkf f0 fr d) S gw gh h g (i + 1) :=
  ⟨H.buf, I.next ok hl hd hr hr' H.st, H.rw', H.rh, H.sb, H.aw, H.ah, H.bel⟩
end
theorem bytes_low {w w3 wr : World} {a : Option Addr} {d : List (BitVec 8)} (h : BytesAt w3 a d) {B : Nat} (hlt : d.length ≠ 0 → ∀ g o, a = some ⟨g, o, none⟩ → g < B) (h1 : Below B w w3) (h2 : Below B w wr) : BytesAt wr a d := fun k hk => by
  obtain ⟨g, o, e, c⟩ := h k hk
  refine ⟨g, o, e, ?_⟩
  have hg := hlt (by omega) g o e
  rw [h2.cell (p := ⟨g, o + k, none⟩) hg, ← h1.cell (p := ⟨g, o + k, none⟩) hg]
  exact c
end Go.Proofs.Ytimiokbnhneggaa
namespace Go.Proofs.Ytimiokbnhneggaa
open Go.RowKit Go.Maps Go.Sort
set_option maxRecDepth 100000

set_option maxHeartbeats 4000000 in
theorem first_any {w : World} {a1 a2 : Option Addr} {c1 c2 : Nat} {s1 s2 : List (BitVec 8)} (hB1 : BytesAt w a1 s1) (N1 : Nat) (hN1 : s1.length = N1) (hc1 : N1 ≤ c1) (hcm1 : c1 ≤ maxLen) (hl1 : N1 ≤ 140737488351232) (hab1 : N1 ≠ 0 → ∀ g o, a1 = some ⟨g, o, none⟩ → g < w.heap.size)
    (hB2 : BytesAt w a2 s2) (N2 : Nat) (hN2 : s2.length = N2) (hc2 : N2 ≤ c2) (hcm2 : c2 ≤ maxLen) (hl2 : N2 ≤ 140737488351232) (hab2 : N2 ≠ 0 → ∀ g o, a2 = some ⟨g, o, none⟩ → g < w.heap.size)
    {ap : Option Addr} {capp : Nat} (P : List Pc) (hP : PcsAt w ap P) (M : Nat) (hM : P.length = M) (hM2 : M ≤ 140737488351232) :
    Calls Try.prog 3 #[.slice a1 N1 c1, .slice a2 N2 c2, .slice ap M capp] w fun e w' => e = .returned (.bool true) ∧ Below w.heap.size w w' := by
  obtain ⟨n, hn, hn1, hn2, hn3⟩ : ∃ n : Nat, min (min (N1 : Int) N2) 1073741823 = n ∧ n ≤ N1 ∧ n ≤ N2 ∧ n ≤ 1073741823 := ⟨min (min N1 N2) 1073741823, by omega, by omega, by omega, by omega⟩
  have hmin : ∀ W, (Builtin.min_ #[3, 3, 3] 3 #[.int .i64 (N1 : Int), .int .i64 (N2 : Int), .int .i64 1073741823]).run Try.prog W = .ok (.int .i64 (n : Int)) W := fun W => by rw [min3, hn]
  have hNew := bnew_ok w (base := 0) (by omega) (by omega) (room := (n : Int) + 1) (by omega) (by omega) (gaps := 64) (by omega) (by omega) (fun _ => 0#8)
  have hmk1 := fun W => make_want W n (by omega)
  have hmk2 := fun W => make_has W n (by omega)
  have HT : Hid (∀ b : Bool, ∃ (s : List (BitVec 8)), BytesAt w (if b then a2 else a1) s ∧ s.length = n ∧ n ≤ (if b then c2 else c1) ∧ (if b then c2 else c1) ≤ maxLen ∧ (n ≠ 0 → ∀ g o, (if b then a2 else a1) = some ⟨g, o, none⟩ → g < w.heap.size)) := by
    intro b
    cases b with
    | false => exact ⟨s1.take n, bytes_take hB1 n, by simp; omega, by simp only [Bool.false_eq_true, if_false]; omega, hcm1, fun h0 g o e => hab1 (by omega) g o e⟩
    | true => exact ⟨s2.take n, bytes_take hB2 n, by simp; omega, by simp only [if_true]; omega, hcm2, fun h0 g o e => hab2 (by omega) g o e⟩
  have HP := hid hP
  have HM := hid hM
  have hMi : (M : Int) ≤ 140737488351232 := by omega
  have e1 : (n : Int) ≤ N1 := by omega
  have e2 : (n : Int) ≤ N2 := by omega
  have e3 : (n : Int) ≤ 1073741823 := by omega
  have e4 : n ≤ c1 := by omega
  have e5 : n ≤ c2 := by omega
  clear hB1 hB2 hab1 hab2 hN1 hN2 hP hM hn
  go_enter Try.func3, Try.ntmps3
  go_upto_region 7 with (go_at_call 9; refine hNew.mono ?_; rintro e w2 ⟨p, b, rfl, hBu, hbu, hfo⟩; have HNW := hid (And.intro hBu (And.intro hbu hfo)); clear hBu hbu hfo)
  refine wp_world fun wb HW => ?_
  have HB3 : Hid (Below w2.heap.size w2 wb) := by show Below _ _ _; rw [HW.out]; exact ((Below.refl _ _).alloc (Nat.le_refl _) _).alloc (by simp) _
  have HR1 : Hid (Row wb w2.heap.size (bcells ((List.range n).map fun _ => 0#8)) 5) := by show Row _ _ _ _; rw [HW.out]; exact (Row.new _ _ _).alloc _
  have HR2 : Hid (Row wb (w2.heap.size + 1) (hcells n fun _ => false) 4) := by show Row _ _ _ _; rw [HW.out]; exact Row.new' _ _ _ _ _ (by simp) rfl
  have HI0 : Hid (FL w wb p n (Bf.zero 0 ((n : Int) + 1) 64) (fun _ => 0#8) (fun x => Foot p (.slice none 0 0) b (.map []) x) w2.heap.size (w2.heap.size + 1) (fun _ => false) (fun _ => 0#8) 0) :=
    ⟨Buf.kept ⟨_, _, _, _, HNW.out.1, fun _ h => h⟩ HB3.out, ⟨rfl, rfl, rfl, rfl, rfl, by simp [Bf.zero], fun x hx => by obtain ⟨r, hr, _⟩ := hx; simp [Bf.zero] at hr, fun x => rfl, fun x hx => rfl⟩, HR1.out, HR2.out, fun x hx => ⟨HNW.out.2.2 x hx, Nat.lt_of_lt_of_le (HNW.out.1.foot_lt hx) HB3.out.size⟩,
      ⟨HNW.out.2.1.size, fun e => Nat.lt_irrefl _ (HNW.out.1.foot_lt e)⟩, ⟨by have := HNW.out.2.1.size; omega, fun e => by have := HNW.out.1.foot_lt e; omega⟩, HNW.out.2.1.trans (HB3.out.mono HNW.out.2.1.size)⟩
  obtain ⟨gh, hgh⟩ : ∃ gh, gh = w2.heap.size + 1 := ⟨_, rfl⟩
  obtain ⟨gw, hgw⟩ : ∃ gw, gw = w2.heap.size := ⟨_, rfl⟩
  simp only [← hgh] at HI0 ⊢
  simp only [← hgw] at HI0 ⊢
  clear HNW hNew HB3 HR1 HR2 HW hmk1 hmk2 hmin hgh hgw
  go_upto_block 0 with fail
  go_cut [12, 13, 14, 15, 16, 17, 18, 19] from 45 to 120 (fun _ _ _ _ _ _ _ _ wc => ∃ (i : Nat) (F : Bf) (f : Int → BitVec 8) (S : Nat → Prop) (h : Nat → Bool) (g : Nat → BitVec 8), FL w wc p n F f S gw gh h g i)
  case first =>
   go_wp2_with fail
   go_loopw [12] (fun s12 wr => ∃ (i : Nat) (F : Bf) (f : Int → BitVec 8) (S : Nat → Prop) (h : Nat → Bool) (g : Nat → BitVec 8), i ≤ M ∧ i ≤ 60 ∧ s12 = .int .i64 i ∧ FL w wr p n F f S gw gh h g i) (fun s12 _ => 60 - (intOf s12).toNat)
   case atStart => exact ⟨0, _, _, _, _, _, Nat.zero_le _, Nat.zero_le _, rfl, HI0.out⟩
   case round =>
     obtain ⟨i, F, f, S, h, g, hi, hi6, rfl, hI⟩ := hrel
     have HI := hid hI
     clear hI HI0
     by_cases hlt : i < M ∧ i < 60
     · obtain ⟨hlt, hl6⟩ := hlt
       obtain ⟨gq, oq, rfl, hcl⟩ := (HP.out.kept HI.out.bel) i (by rw [HM.out]; exact hlt)
       have q0 : wr.cell? ⟨gq, oq + i * 4, none⟩ = some (.int .i64 (P[i]'(by rw [HM.out]; exact hlt)).x) := hcl 0 _ rfl
       have q1 := hcl 1 _ rfl
       have q2 := hcl 2 _ rfl
       have q3 := hcl 3 _ rfl
       generalize P[i]'(by rw [HM.out]; exact hlt) = pc at *
       obtain ⟨px, py, pf, pn⟩ := pc
       simp only at q0 q1 q2 q3
       have hki : (i : Int) < (M : Int) := by omega
       have hk6 : (i : Int) < 60 := by omega
       clear hcl
       obtain ⟨z, hz⟩ : ∃ z : Int, pf = decide (z = 1) := ⟨if pf then 1 else 0, by cases pf <;> simp⟩
       subst hz
       go_upto_if 62 with fail
       go_cut [13] from 45 to 120 (fun s13 wc => ∃ (ta : Option Addr) (tc : Nat) (ts : List (BitVec 8)), s13 = .slice ta n tc ∧ BytesAt w ta ts ∧ ts.length = n ∧ n ≤ tc ∧ tc ≤ maxLen ∧ (n ≠ 0 → ∀ g o, ta = some ⟨g, o, none⟩ → g < w.heap.size) ∧ wr = wc)
       case first =>
         by_cases hz : z = 1
         · obtain ⟨ts, t1, t2, t3, t4, t5⟩ := HT.out true
           have HX := hid (And.intro t1 (And.intro t2 (And.intro t3 (And.intro t4 t5))))
           clear t1 t2 t3 t4 t5
           go_wp2_with fail
           go_meet
           exact ⟨a2, c2, ts, rfl, HX.out.1, HX.out.2.1, HX.out.2.2.1, HX.out.2.2.2.1, HX.out.2.2.2.2, rfl⟩
         · obtain ⟨ts, t1, t2, t3, t4, t5⟩ := HT.out false
           have HX := hid (And.intro t1 (And.intro t2 (And.intro t3 (And.intro t4 t5))))
           clear t1 t2 t3 t4 t5
           go_wp2_with fail
           go_meet
           exact ⟨a1, c1, ts, rfl, HX.out.1, HX.out.2.1, HX.out.2.2.1, HX.out.2.2.2.1, HX.out.2.2.2.2, rfl⟩
       case rest =>
         obtain ⟨ta, tc, ts, rfl, hTB, hTn, hTc, hTm, hTl, rfl⟩ := hcut
         have HTB := hid hTB
         have HTL := hid hTl
         have HTN := hid hTn
         clear hTB hTl hTn HT
         obtain ⟨fr, hfr⟩ : ∃ fr, cutF px n = fr := ⟨_, rfl⟩
         obtain ⟨ln, hln⟩ : ∃ ln, cutL px py n = ln := ⟨_, rfl⟩
         have hfl : fr + ln ≤ n := by have := (cutL_le px py n).1; omega
         have HCUT := hid (cut_any (HTB.out.kept HI.out.bel) n HTN.out hTc hTm (by omega) px py pn (decide (z = 1)))
         rw [hfr, hln] at HCUT
         have HTK := hid (HI.out.st.take HI.out.buf.ok hl6 hfl hn3)
         obtain ⟨d, hd⟩ : ∃ d, (ts.drop fr).take ln = d := ⟨_, rfl⟩
         have hdl : d.length = ln := by have := HTN.out; rw [← hd]; simp; omega
         have HDL := hid hdl
         rw [hd] at HCUT
         have HNX : Hid (∀ w3 aj, BytesAt w3 aj d → (∀ g o, aj = some ⟨g, o, none⟩ → ∃ o', ta = some ⟨g, o', none⟩) → Below wr.heap.size wr w3 →
             Calls Try.prog 11 #[.pointer (some ⟨p, 0, none⟩), .int .u64 fr, .slice aj ln (tc - fr)] w3 fun e w' => e = .returned (.tuple #[.int .i64 (F.tkn fr ln), .int .i64 (F.refuses fr ln)]) ∧
               ∃ S5, FJ w w' p n (F.tk fr ln) (F.tkf f fr d) S5 gw gh F.L f h h g d fr 0 ∧ ∀ wx, Below w.heap.size w wx → BytesAt wx aj d) := fun w3 aj hbj haj hb3 => by
           have h3 := HI.out.kept hb3
           have hlow : d.length ≠ 0 → ∀ g o, aj = some ⟨g, o, none⟩ → g < w.heap.size := fun hne g o e => by
             obtain ⟨o', e'⟩ := haj g o e
             exact HTL.out (by have := HDL.out; omega) g o' e'
           refine (take_any2 h3.buf (off := (fr : Int)) (by omega) (by omega) (d := d) (cap := tc - fr) (by have := HDL.out; omega) (by omega) hbj ln HDL.out (fun hne g o e hs => ?_)).mono ?_
           · have h5 := hlow (by have := HDL.out; omega) g o e
             have h6 := (h3.sb g hs).1
             omega
           · rintro e w' ⟨rfl, S5, r1, r2, r3⟩
             exact ⟨rfl, _, h3.take r1 r2 r3 d fr, fun wx hwx => bytes_low hbj hlow h3.bel hwx⟩
         have HRF : Hid ((ln ≠ 0 → F.refuses fr ln = 0) ∧ (ln = 0 → F.refuses fr ln = 82)) := ⟨fun e => (HTK.out.1 e).1, fun e => (HTK.out.2 e).1⟩
         have HCN : Hid (F.tkn fr ln = cntN F.L fr ln) := by
           show _ = _
           by_cases e : ln = 0
           · subst e; rw [(HTK.out.2 rfl).2]; rfl
           · exact (HTK.out.1 e).2
         rw [HCN.out] at HNX
         have hcl1 := cntN_le F.L fr ln
         have hfi : (fr : Int) + ln ≤ n := by omega
         clear hfr hln hd hdl HTK HCN
         obtain ⟨er, her, hez⟩ : ∃ er : Int, F.refuses fr ln = er ∧ (er = 0 ↔ ln ≠ 0) := ⟨_, rfl, by
           by_cases e : ln = 0
           · rw [HRF.out.2 e]; simp [e]
           · rw [HRF.out.1 e]; simp [e]⟩
         rw [her] at HNX
         have hbb : (decide (er = 0)) = decide (0 < (ln : Int)) := by rw [decide_eq_decide]; omega
         have HBB := hid hbb
         clear hbb her hez
         go_upto_if 88 with (first | (go_at_call 10; refine HCUT.out.mono ?_; rintro e w3 ⟨aj, rfl, hbj, haj, hb3⟩; have HX3 := hid (HNX.out w3 aj hbj haj hb3); clear hbj haj hb3) | (go_at_call 11; refine HX3.out.mono ?_; rintro e w4 ⟨rfl, S5, hJ4, hb4⟩; have HJ4 := hid hJ4; have HD4 := hid hb4; clear hJ4 hb4))
         go_cut [18] from 45 to 120 (fun _ wc => w4 = wc)
         case first =>
           by_cases hz : ln = 0
           · subst hz
             have hq : ¬ er = 0 := by have := HBB.out; simpa using this
             go_wp2_with fail
             all_goals first | (go_meet; exact rfl) | (exfalso; rename_i hh; revert hh; simp [hq])
           · have hp : 0 < (ln : Int) := by omega
             obtain rfl : er = 0 := by have := HBB.out; rw [decide_eq_decide] at this; exact this.2 hp
             go_wp2_with fail
             all_goals first | (go_meet; exact rfl) | (exfalso; rename_i hh; revert hh; simp [hz])
         case rest =>
           obtain rfl := hcut
           have HFS := hid (And.intro HI.out.st HI.out.buf.ok)
           clear HI HX3 HNX HCUT HTB HTL HTN HBB HP q0 q1 q2 q3
           go_wp2_with fail
           go_loopw [18, 19] (fun s18 s19 wr => ∃ (j : Nat) (h' : Nat → Bool) (g' : Nat → BitVec 8), j ≤ ln ∧ s19 = .int .i64 j ∧ s18 = .int .i64 (cntN F.L fr j) ∧ FJ w wr p n (F.tk fr ln) (F.tkf f fr d) S5 gw gh F.L f h h' g' d fr j) (fun _ s _ => ln - (intOf s).toNat)
           case atStart => exact ⟨0, h, g, Nat.zero_le _, rfl, rfl, HJ4.out⟩
           case round =>
             obtain ⟨j, h', g', hj, rfl, rfl, hJ⟩ := hrel
             have HJ := hid hJ
             clear hJ HJ4
             by_cases hjl : j < ln
             · have x0 := HJ.out.rh.cell (fr + j) _ (hcells_get h' (by omega))
               have f0 := HJ.out.rh.frozen (fr + j)
               obtain ⟨ga, oa, rfl, hda⟩ := HD4.out _ HJ.out.bel j (by rw [HDL.out]; exact hjl)
               have hc : d[j]? = some (d[j]'(by rw [HDL.out]; exact hjl)) := List.getElem?_eq_getElem _
               have y0 : (wr.setCell ⟨gh, fr + j, none⟩ (.bool true)).cell? ⟨ga, oa + j, none⟩ = some (.int .u8 (ub (d[j]'(by rw [HDL.out]; exact hjl)))) := by
                 obtain ⟨ga', oa', e, c⟩ := HD4.out _ (HJ.out.bel.setCell (p := ⟨gh, fr + j, none⟩) HJ.out.ah.1 (.bool true)) j (by rw [HDL.out]; exact hjl)
                 cases e
                 exact c
               generalize d[j]'(by rw [HDL.out]; exact hjl) = c at *
               have hne : gw ≠ gh := row_ne HJ.out.rw' HJ.out.rh (by decide)
               have R2 := HJ.out.rw'.setOther ⟨gh, fr + j, none⟩ hne (.bool true)
               have y1 := R2.cell (fr + j) _ (wcells_get g' (by omega))
               have y2 := R2.frozen (fr + j)
               have hx1 : (0 : Int) ≤ (fr : Int) + j := by omega
               have hx2 : (fr : Int) + j < n := by omega
               have hx3 : ((fr : Int) + (j : Int)).toNat = fr + j := by omega
               have hx4 : IntKind.i64.wrap ((fr : Int) + j) = (fr : Int) + j := by rw [IntKind.wrap_i64]; omega
               have hx5 : (j : Int) < ln := by omega
               have hcn := cntN_le F.L fr j
               have HC := hid hc
               clear hda hc R2 hne
               cases hb : h' (fr + j) with
               | true =>
                 rw [hb] at x0
                 have HB := hid hb
                 clear hb
                 go_wp2_with fail
                 go_roundw
                 case rel =>
                   obtain ⟨m1, m2⟩ := HJ.out.st.skip HB.out
                   exact ⟨j + 1, h', g', hjl, by go_num, by simp only [cntN]; rw [m1]; rfl, HJ.out.skip HB.out⟩
                 case measure => simp [intOf]; omega
               | false =>
                 rw [hb] at x0
                 have HB := hid hb
                 clear hb
                 go_wp2_with fail
                 go_roundw
                 case rel =>
                   obtain ⟨m1, m2⟩ := HJ.out.st.put HB.out c HC.out
                   exact ⟨j + 1, _, _, hjl, by go_num, by simp only [cntN]; rw [m1]; first | rfl | go_num | (congr 1; simp), HJ.out.put HB.out c HC.out⟩
                 case measure => simp [intOf]; omega
             · obtain rfl : j = ln := by omega
               have hx5 : ¬ (j : Int) < j := by omega
               go_wp2_with fail
               go_roundw
               case rel => exact ⟨i + 1, _, _, _, _, _, hlt, hl6, by go_num, HJ.out.done HFS.out.1 HFS.out.2 hfl HDL.out HRF.out.1 HRF.out.2⟩
               case measure => simp [intOf]; omega
     · by_cases h1 : i < M
       · have h2 : ¬ (i : Int) < 60 := by omega
         have h3 : (i : Int) < M := by omega
         clear hlt
         go_wp2_with fail
         go_meet
         exact ⟨i, F, f, S, h, g, HI.out⟩
       · have h3 : ¬ (i : Int) < M := by omega
         clear hlt
         go_wp2_with fail
         go_meet
         exact ⟨i, F, f, S, h, g, HI.out⟩
  case rest =>
   obtain ⟨i, F, f, S, h, g, hI⟩ := hcut
   have HI := hid hI
   clear hI HI0 HT HP HM
   go_upto_block 4 with fail
   go_cut [20] from 121 to 131 (fun s20 wd => ∃ k : Nat, s20 = .int .i64 k ∧ k ≤ n ∧ (∀ x, x < k → h x = true) ∧ (k = n ∨ h k = false) ∧ wc = wd)
   case first =>
     go_wp2_with fail
     go_loopw [20] (fun s20 wr => ∃ k : Nat, k ≤ n ∧ (∀ x, x < k → h x = true) ∧ s20 = .int .i64 k ∧ wc = wr) (fun s _ => n - (intOf s).toNat)
     case atStart => exact ⟨0, Nat.zero_le _, fun x hx => absurd hx (Nat.not_lt_zero _), rfl, rfl⟩
     case round =>
       obtain ⟨k, hk, hka, rfl, rfl⟩ := hrel
       have HKA := hid hka
       clear hka
       by_cases hkn : k < n
       · have x0 := HI.out.rh.cell k _ (hcells_get h hkn)
         have hk1 : (k : Int) < n := by omega
         cases hb : h k with
         | true =>
           rw [hb] at x0
           have HB := hid hb
           clear hb
           go_wp2_with fail
           go_roundw
           case rel => exact ⟨k + 1, hkn, fun x hx => (by by_cases e : x = k; subst e; exact HB.out; exact HKA.out x (by omega)), by go_num, by first | rfl | trivial⟩
           case measure => simp [intOf]; omega
         | false =>
           rw [hb] at x0
           have HB := hid hb
           clear hb
           go_wp2_with fail
           go_meet
           exact ⟨k, rfl, hk, HKA.out, .inr HB.out, rfl⟩
       · obtain rfl : k = n := by omega
         have hk1 : ¬ (k : Int) < k := by omega
         go_wp2_with fail
         go_meet
         exact ⟨k, rfl, hk, HKA.out, .inl rfl, rfl⟩
   case rest =>
     obtain ⟨k, rfl, hk, hka, hke, rfl⟩ := hcut
     have hRD := read_any HI.out.buf ((n : Int) + 5) (by omega) (by omega) (by rw [HI.out.st.rd, HI.out.st.rm, HI.out.st.bs]; omega)
     obtain ⟨r1, r2⟩ := HI.out.st.read HI.out.buf.ok hka hk hke
     rw [r1, r2] at hRD
     have HRD := hid hRD
     have hrl : ((List.range k).map g).length = k := by simp
     rw [hrl] at HRD
     clear hRD r1 r2 hka hke
     go_upto_region 31 with (go_at_call 12; refine HRD.out.mono ?_; rintro e w3 ⟨ax, rfl, hb3, hn3, S3, hB3, hf3, hs3, hx3⟩; have HB3 := hid hf3; have HY3 := hid hb3; clear hB3 hf3 hs3 hb3 hn3 hx3)
     have HRW := hid (HB3.out.row HI.out.rw' HI.out.aw.2)
     have HBL : Hid (Below w.heap.size w w3) := HI.out.bel.trans (HB3.out.below (fun x hx => (HI.out.sb x hx).1) HI.out.bel.size)
     have hcv1 : ∀ d os, (convert 22 9 (.slice ax k k)).run Try.prog (grow (redrawn w3 d) os) = .ok (.string (strOf ((List.range k).map g))) (grow (redrawn w3 d) os) := fun d os => convert_any (HY3.out.kept (below_regrown _ _ _)) hrl
     have hcv2 : ∀ d os, (convert 22 9 (.slice (some ⟨gw, 0, none⟩) k n)).run Try.prog (grow (redrawn w3 d) os) = .ok (.string (strOf ((List.range k).map g))) (grow (redrawn w3 d) os) := fun d os => convert_any (by
       have h1 := ((HRW.out.kept (below_regrown w3 d os) HRW.out.lt).bytes)
       have h2 := bytes_take h1 k
       rwa [← List.map_take, List.take_range, show min k n = k by omega] at h2) hrl
     have hK := fun (d : Nat) (os : Array Obj) => Calls.regrown_of (alive_any (grow (redrawn w3 d) os))
     have hkn : (k : Int) ≤ n := by omega
     generalize strOf ((List.range k).map g) = str at *
     clear HRD HY3 HRW hrl
     refine wp_region_quiet_below (by kernel_rfl) (by decide +kernel) ?_
     iterate 19 (quiet_step (first | (go_at_call 13; exact hK _ _)))
     refine wpQuiet_nil ?_
     intro _ hw'
     obtain ⟨⟨dq, osq⟩, hw''⟩ := hw'
     subst hw''
     go_wp2_with fail
     go_ret
     exact ⟨by first | rfl | simp, HBL.out.trans ((below_regrown w3 dq osq).mono HBL.out.size)⟩
end Go.Proofs.Ytimiokbnhneggaa
