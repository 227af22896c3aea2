import Derived.Test.YtjbjaklbckhodabSearch
import Derived.Test.YtjbjaklbckhodabSpec
namespace Go.Proofs.Ytjbjaklbckhodab
open Go.RowKit
set_option maxRecDepth 100000

theorem cell_drewN {w : World} {m : Nat} {ad : Addr} {v : Value} (h : w.cell? ad = some v) : (w.drewN m).cell? ad = some v := h

set_option maxHeartbeats 400000 in
theorem overlappedP_any (p bs br g cap n : Nat) (lo rl rh : Int) (i : Nat) (W : World) (hin : i < n)
    (hs : W.cell? ⟨bs, 0, none⟩ = some (.pointer (some ⟨p, 0, none⟩))) (hp : W.cell? ⟨p, 0, none⟩ = some (.slice (some ⟨g, 0, none⟩) n cap)) (_hx : W.cell? ⟨br, 0, none⟩ = some (.int .u64 rl)) (hy : W.cell? ⟨br, 1, none⟩ = some (.int .u64 rh)) (hc : W.cell? ⟨g, i * 2, none⟩ = some (.int .u64 lo)) :
    Calls Try.prog 51 #[.int .i64 i, .pointer (some ⟨bs, 0, none⟩), .pointer (some ⟨br, 0, none⟩)] W fun e w' => e = .returned (.bool (decide (rh ≤ lo))) ∧ ∃ q, w' = W.drewN q := by
  have hiz : (i : Int) < (n : Int) := by omega
  go_enter Try.func51, Try.ntmps51
  go_wp2
  go_quiet (fail)
  go_wp2
  go_ret
  exact ⟨rfl, nq, rfl⟩

set_option maxHeartbeats 400000 in
theorem touchedP1_any (p bs br g cap n : Nat) (hi rl rh : Int) (i : Nat) (W : World) (hin : i < n)
    (hs : W.cell? ⟨bs, 0, none⟩ = some (.pointer (some ⟨p, 0, none⟩))) (hp : W.cell? ⟨p, 0, none⟩ = some (.slice (some ⟨g, 0, none⟩) n cap)) (hx : W.cell? ⟨br, 0, none⟩ = some (.int .u64 rl)) (_hy : W.cell? ⟨br, 1, none⟩ = some (.int .u64 rh)) (hc : W.cell? ⟨g, i * 2 + 1, none⟩ = some (.int .u64 hi)) :
    Calls Try.prog 62 #[.int .i64 i, .pointer (some ⟨bs, 0, none⟩), .pointer (some ⟨br, 0, none⟩)] W fun e w' => e = .returned (.bool (decide (rl ≤ hi))) ∧ ∃ q, w' = W.drewN q := by
  have hiz : (i : Int) < (n : Int) := by omega
  go_enter Try.func62, Try.ntmps62
  go_wp2
  go_quiet (fail)
  go_wp2
  go_ret
  exact ⟨rfl, nq, rfl⟩

set_option maxHeartbeats 400000 in
theorem touchedP2_any (p bs br g cap n : Nat) (lo rl rh : Int) (i : Nat) (W : World) (hin : i < n)
    (hs : W.cell? ⟨bs, 0, none⟩ = some (.pointer (some ⟨p, 0, none⟩))) (hp : W.cell? ⟨p, 0, none⟩ = some (.slice (some ⟨g, 0, none⟩) n cap)) (_hx : W.cell? ⟨br, 0, none⟩ = some (.int .u64 rl)) (hy : W.cell? ⟨br, 1, none⟩ = some (.int .u64 rh)) (hc : W.cell? ⟨g, i * 2, none⟩ = some (.int .u64 lo)) :
    Calls Try.prog 63 #[.int .i64 i, .pointer (some ⟨bs, 0, none⟩), .pointer (some ⟨br, 0, none⟩)] W fun e w' => e = .returned (.bool (decide (rh < lo))) ∧ ∃ q, w' = W.drewN q := by
  have hiz : (i : Int) < (n : Int) := by omega
  go_enter Try.func63, Try.ntmps63
  go_wp2
  go_quiet (fail)
  go_wp2
  go_ret
  exact ⟨rfl, nq, rfl⟩

theorem cells_pair {w : World} {b : Nat} {x y : Value} {t : TypeId} (h : w.heap[b]? = some (.cells #[x, y] t (0, 0))) : w.cell? ⟨b, 0, none⟩ = some x ∧ w.cell? ⟨b, 1, none⟩ = some y := by
  rw [cell_of_row w b 0 _ t _ h, cell_of_row w b 1 _ t _ h]; exact ⟨rfl, rfl⟩

/-- Which stretches are at the front: those that end at x or ahead of it. -/
def endBy (x : Int) (r : Rg) : Bool := decide (r.2 ≤ x)
def endAhead (x : Int) (r : Rg) : Bool := decide (r.2 < x)
def beginAhead (x : Int) (r : Rg) : Bool := decide (r.1 < x)
def beginBy (x : Int) (r : Rg) : Bool := decide (r.1 ≤ x)

theorem eg52 : ∀ args w, (callFunc 69 args).run Try.prog w = .ok (.enter 69 args) w := enters_of Try.func69 (by kernel_rfl) rfl
theorem eg51 : ∀ args w, (callFunc 51 args).run Try.prog w = .ok (.enter 51 args) w := enters_of Try.func51 (by kernel_rfl) rfl
theorem eg44 : ∀ args w, (callFunc 62 args).run Try.prog w = .ok (.enter 62 args) w := enters_of Try.func62 (by kernel_rfl) rfl
theorem eg45 : ∀ args w, (callFunc 63 args).run Try.prog w = .ok (.enter 63 args) w := enters_of Try.func63 (by kernel_rfl) rfl

/-- The search of firstFrom, over whatever world in which the two boxes lie. -/
theorem search52 {w : World} {p bs bx : Nat} {a : Option Addr} {cap : Nat} {L : List Rg} (x : Int) (V : View w p a cap L) (F : Fit L)
    (hs : w.cell? ⟨bs, 0, none⟩ = some (.pointer (some ⟨p, 0, none⟩))) (hx : w.cell? ⟨bx, 0, none⟩ = some (.int .u64 x)) :
    Calls Try.prog 50 #[.int .i64 L.length, .func (.func 69) #[] #[.pointer (some ⟨bs, 0, none⟩), .pointer (some ⟨bx, 0, none⟩)]] w fun e w' => e = .returned (.int .i64 (front (endBy x) L)) ∧ ∃ q, w' = w.drewN q := by
  refine (search_any 69 _ _ L.length (fun i => decide (x < (nth L i).2)) w eg52 (by have := V.few; omega) (fun m i hi => ?_) (fun i j hij hj h => ?_)).mono ?_
  · obtain ⟨g, rfl, h1, h2⟩ := V.row i hi
    rw [nth_eq hi]
    exact firstFromP_any p bs bx g cap L.length x _ i _ hi (cell_drewN hs) (cell_drewN V.head) (cell_drewN hx) (cell_drewN h2)
  · have := F.mono_hi i j hij hj
    simp only [decide_eq_true_eq, nth_eq hj, nth_eq (show i < L.length by omega)] at h ⊢
    omega
  · rintro e w' ⟨k, rfl, hk, h1, h2, q, rfl⟩
    refine ⟨?_, q, rfl⟩
    rw [front_nth (endBy x) L k hk (fun t ht => by have := h1 t ht; simp only [decide_eq_false_iff_not, endBy, decide_eq_true_eq] at this ⊢; omega) (fun t ht hn => by have := h2 t ht hn; simp only [decide_eq_true_eq, endBy, decide_eq_false_iff_not] at this ⊢; omega)]
theorem search51 {w : World} {p bs br : Nat} {a : Option Addr} {cap : Nat} {L : List Rg} (rl rh : Int) (V : View w p a cap L) (F : Fit L)
    (hs : w.cell? ⟨bs, 0, none⟩ = some (.pointer (some ⟨p, 0, none⟩))) (hx : w.cell? ⟨br, 0, none⟩ = some (.int .u64 rl)) (hy : w.cell? ⟨br, 1, none⟩ = some (.int .u64 rh)) :
    Calls Try.prog 50 #[.int .i64 L.length, .func (.func 51) #[] #[.pointer (some ⟨bs, 0, none⟩), .pointer (some ⟨br, 0, none⟩)]] w fun e w' => e = .returned (.int .i64 (front (beginAhead rh) L)) ∧ ∃ q, w' = w.drewN q := by
  refine (search_any 51 _ _ L.length (fun i => decide (rh ≤ (nth L i).1)) w eg51 (by have := V.few; omega) (fun m i hi => ?_) (fun i j hij hj h => ?_)).mono ?_
  · obtain ⟨g, rfl, h1, h2⟩ := V.row i hi
    rw [nth_eq hi]
    exact overlappedP_any p bs br g cap L.length _ rl rh i _ hi (cell_drewN hs) (cell_drewN V.head) (cell_drewN hx) (cell_drewN hy) (cell_drewN h1)
  · have := F.mono_lo i j hij hj
    simp only [decide_eq_true_eq, nth_eq hj, nth_eq (show i < L.length by omega)] at h ⊢
    omega
  · rintro e w' ⟨k, rfl, hk, h1, h2, q, rfl⟩
    refine ⟨?_, q, rfl⟩
    rw [front_nth (beginAhead rh) L k hk (fun t ht => by have := h1 t ht; simp only [decide_eq_false_iff_not, beginAhead, decide_eq_true_eq] at this ⊢; omega) (fun t ht hn => by have := h2 t ht hn; simp only [decide_eq_true_eq, beginAhead, decide_eq_false_iff_not] at this ⊢; omega)]
theorem search44 {w : World} {p bs br : Nat} {a : Option Addr} {cap : Nat} {L : List Rg} (rl rh : Int) (V : View w p a cap L) (F : Fit L)
    (hs : w.cell? ⟨bs, 0, none⟩ = some (.pointer (some ⟨p, 0, none⟩))) (hx : w.cell? ⟨br, 0, none⟩ = some (.int .u64 rl)) (hy : w.cell? ⟨br, 1, none⟩ = some (.int .u64 rh)) :
    Calls Try.prog 50 #[.int .i64 L.length, .func (.func 62) #[] #[.pointer (some ⟨bs, 0, none⟩), .pointer (some ⟨br, 0, none⟩)]] w fun e w' => e = .returned (.int .i64 (front (endAhead rl) L)) ∧ ∃ q, w' = w.drewN q := by
  refine (search_any 62 _ _ L.length (fun i => decide (rl ≤ (nth L i).2)) w eg44 (by have := V.few; omega) (fun m i hi => ?_) (fun i j hij hj h => ?_)).mono ?_
  · obtain ⟨g, rfl, h1, h2⟩ := V.row i hi
    rw [nth_eq hi]
    exact touchedP1_any p bs br g cap L.length _ rl rh i _ hi (cell_drewN hs) (cell_drewN V.head) (cell_drewN hx) (cell_drewN hy) (cell_drewN h2)
  · have := F.mono_hi i j hij hj
    simp only [decide_eq_true_eq, nth_eq hj, nth_eq (show i < L.length by omega)] at h ⊢
    omega
  · rintro e w' ⟨k, rfl, hk, h1, h2, q, rfl⟩
    refine ⟨?_, q, rfl⟩
    rw [front_nth (endAhead rl) L k hk (fun t ht => by have := h1 t ht; simp only [decide_eq_false_iff_not, endAhead, decide_eq_true_eq] at this ⊢; omega) (fun t ht hn => by have := h2 t ht hn; simp only [decide_eq_true_eq, endAhead, decide_eq_false_iff_not] at this ⊢; omega)]
theorem search45 {w : World} {p bs br : Nat} {a : Option Addr} {cap : Nat} {L : List Rg} (rl rh : Int) (V : View w p a cap L) (F : Fit L)
    (hs : w.cell? ⟨bs, 0, none⟩ = some (.pointer (some ⟨p, 0, none⟩))) (hx : w.cell? ⟨br, 0, none⟩ = some (.int .u64 rl)) (hy : w.cell? ⟨br, 1, none⟩ = some (.int .u64 rh)) :
    Calls Try.prog 50 #[.int .i64 L.length, .func (.func 63) #[] #[.pointer (some ⟨bs, 0, none⟩), .pointer (some ⟨br, 0, none⟩)]] w fun e w' => e = .returned (.int .i64 (front (beginBy rh) L)) ∧ ∃ q, w' = w.drewN q := by
  refine (search_any 63 _ _ L.length (fun i => decide (rh < (nth L i).1)) w eg45 (by have := V.few; omega) (fun m i hi => ?_) (fun i j hij hj h => ?_)).mono ?_
  · obtain ⟨g, rfl, h1, h2⟩ := V.row i hi
    rw [nth_eq hi]
    exact touchedP2_any p bs br g cap L.length _ rl rh i _ hi (cell_drewN hs) (cell_drewN V.head) (cell_drewN hx) (cell_drewN hy) (cell_drewN h1)
  · have := F.mono_lo i j hij hj
    simp only [decide_eq_true_eq, nth_eq hj, nth_eq (show i < L.length by omega)] at h ⊢
    omega
  · rintro e w' ⟨k, rfl, hk, h1, h2, q, rfl⟩
    refine ⟨?_, q, rfl⟩
    rw [front_nth (beginBy rh) L k hk (fun t ht => by have := h1 t ht; simp only [decide_eq_false_iff_not, beginBy, decide_eq_true_eq] at this ⊢; omega) (fun t ht hn => by have := h2 t ht hn; simp only [decide_eq_true_eq, beginBy, decide_eq_false_iff_not] at this ⊢; omega)]

/-- Two boxes laid behind w. -/
theorem boxes {w : World} (o1 o2 : Obj) : Below w.heap.size w ((w.alloc o1).alloc o2) := ((Below.refl _ _).alloc (Nat.le_refl _) o1).alloc (by simp) o2
theorem box0 {w : World} (cs : Array Value) (t : TypeId) (o2 : Obj) (j : Nat) : ((w.alloc (.cells cs t)).alloc o2).cell? ⟨w.heap.size, j, none⟩ = cs[j]? := by
  rw [cell_of_row _ _ _ cs t (0, 0) (heap_alloc2_old w _ _)]
theorem box1 {w : World} (o1 : Obj) (cs : Array Value) (t : TypeId) (j : Nat) : ((w.alloc o1).alloc (.cells cs t)).cell? ⟨w.heap.size + 1, j, none⟩ = cs[j]? := by
  rw [cell_of_row _ _ _ cs t (0, 0) (heap_alloc2_new w _ _)]

set_option maxHeartbeats 400000 in
theorem firstFrom_any {w : World} {p : Nat} {a : Option Addr} {cap : Nat} {L : List Rg} (x : Int) (V : View w p a cap L) (F : Fit L) :
    Calls Try.prog 49 #[.pointer (some ⟨p, 0, none⟩), .int .u64 x] w fun e w' => e = .returned (.int .i64 (front (endBy x) L)) ∧ Below w.heap.size w w' := by
  have hb : Below w.heap.size w ((w.alloc (.cells #[.pointer (some ⟨p, 0, none⟩)] 26)).alloc (.cells #[.int .u64 x] 23)) := boxes _ _
  have hS := search52 (bs := w.heap.size) (bx := w.heap.size + 1) x (V.kept hb) F (box0 _ _ _ 0) (box1 _ _ _ 0)
  have hd := cell_kept hb V.head
  have HB : Hid _ := hb
  clear hb V F
  generalize front (endBy x) L = k at *
  go_enter Try.func49, Try.ntmps49
  go_wp2_with fail
  refine hS.mono ?_
  rintro e w' ⟨rfl, q, rfl⟩
  go_wp2
  go_ret
  exact ⟨rfl, below_drewN HB.out q⟩

def ovlA (L : List Rg) (r : Rg) : Nat := front (endBy r.1) L
def ovlB (L : List Rg) (r : Rg) : Nat := if r.2 ≤ r.1 then front (endBy r.1) L else front (beginAhead r.2) L
def tchA (L : List Rg) (r : Rg) : Nat := front (endAhead r.1) L
def tchB (L : List Rg) (r : Rg) : Nat := front (beginBy r.2) L

set_option maxHeartbeats 400000 in
theorem overlapped_any {w : World} {p : Nat} {a : Option Addr} {cap : Nat} {L : List Rg} (r : Rg) (V : View w p a cap L) (F : Fit L) :
    Calls Try.prog 29 #[.pointer (some ⟨p, 0, none⟩), .agg #[.int .u64 r.1, .int .u64 r.2]] w fun e w' => e = .returned (.tuple #[.int .i64 (ovlA L r), .int .i64 (ovlB L r)]) ∧ Below w.heap.size w w' := by
  obtain ⟨rl, rh⟩ := r
  have hb : Below w.heap.size w ((w.alloc (.cells #[.pointer (some ⟨p, 0, none⟩)] 26)).alloc (.cells #[.int .u64 rl, .int .u64 rh] 25)) := boxes _ _
  have hz : ((w.alloc (.cells #[.pointer (some ⟨p, 0, none⟩)] 26)).alloc (.cells #[.int .u64 rl, .int .u64 rh] 25)).heap.size = w.heap.size + 1 + 1 := by simp
  have hc0 := box0 (w := w) #[.pointer (some ⟨p, 0, none⟩)] 26 (.cells #[.int .u64 rl, .int .u64 rh] 25) 0
  have hc1 := box1 (w := w) (.cells #[.pointer (some ⟨p, 0, none⟩)] 26) #[.int .u64 rl, .int .u64 rh] 25 0
  have hc2 := box1 (w := w) (.cells #[.pointer (some ⟨p, 0, none⟩)] 26) #[.int .u64 rl, .int .u64 rh] 25 1
  have hF := firstFrom_any rl (V.kept hb) F
  have HB : Hid _ := hb
  have HV : Hid _ := V.kept hb
  have HC0 : Hid _ := hc0
  have HC1 : Hid _ := hc1
  have HC2 : Hid _ := hc2
  have HF : Hid _ := F
  clear hb V F hc0 hc1 hc2
  have hA : ovlA L (rl, rh) = front (endBy rl) L := rfl
  have hB : ovlB L (rl, rh) = if rh ≤ rl then front (endBy rl) L else front (beginAhead rh) L := rfl
  by_cases hE : rh ≤ rl
  all_goals
    first | rw [if_pos hE] at hB | rw [if_neg hE] at hB
    rw [hA, hB]
    clear hA hB
    go_enter Try.func29, Try.ntmps29
    go_wp2_with fail
    refine hF.mono ?_
    rintro e w1 ⟨rfl, hb1⟩
    have d0 := cell_kept hb1 HC0.out
    have d1 := cell_kept hb1 HC1.out
    have d2 := cell_kept hb1 HC2.out
    have hz1 := hb1.size
    rw [hz] at hz1
    have HV1 : Hid _ := HV.out.kept hb1
    have HB1 : Hid _ := HB.out.trans (hb1.mono HB.out.size)
    clear hF hz HV HC0 HC1 HC2 HB hb1
    have hb2 : Below w1.heap.size w1 (w1.alloc (.cells #[.int .u64 rl, .int .u64 rh] 25)) := (Below.refl _ _).alloc (Nat.le_refl _) _
    have e0 := cell_kept hb2 d0
    have e1 := cell_kept hb2 d1
    have e2 := cell_kept hb2 d2
    have hh := cell_kept hb2 HV1.out.head
    have hS := search51 (bs := w.heap.size) (br := w.heap.size + 1) rl rh (HV1.out.kept hb2) HF.out e0 e1 e2
    have HB2 : Hid _ := HB1.out.trans (hb2.mono HB1.out.size)
    clear hb2 HB1 HF HV1
  · go_wp2_with fail
    refine (empty_any rl rh _).mono ?_
    rintro e w2 ⟨rfl, rfl⟩
    go_wp2
    go_ret2
    exact ⟨rfl, HB2.out⟩
  · go_wp2_with fail
    refine (empty_any rl rh _).mono ?_
    rintro e w2 ⟨rfl, rfl⟩
    go_wp2_with fail
    refine hS.mono ?_
    rintro e w3 ⟨rfl, q, rfl⟩
    go_wp2
    go_ret2
    exact ⟨rfl, below_drewN HB2.out q⟩

set_option maxHeartbeats 400000 in
theorem touched_any {w : World} {p : Nat} {a : Option Addr} {cap : Nat} {L : List Rg} (r : Rg) (V : View w p a cap L) (F : Fit L) :
    Calls Try.prog 45 #[.pointer (some ⟨p, 0, none⟩), .agg #[.int .u64 r.1, .int .u64 r.2]] w fun e w' => e = .returned (.tuple #[.int .i64 (tchA L r), .int .i64 (tchB L r)]) ∧ Below w.heap.size w w' := by
  obtain ⟨rl, rh⟩ := r
  have hb : Below w.heap.size w ((w.alloc (.cells #[.pointer (some ⟨p, 0, none⟩)] 26)).alloc (.cells #[.int .u64 rl, .int .u64 rh] 25)) := boxes _ _
  have hc0 := box0 (w := w) #[.pointer (some ⟨p, 0, none⟩)] 26 (.cells #[.int .u64 rl, .int .u64 rh] 25) 0
  have hc1 := box1 (w := w) (.cells #[.pointer (some ⟨p, 0, none⟩)] 26) #[.int .u64 rl, .int .u64 rh] 25 0
  have hc2 := box1 (w := w) (.cells #[.pointer (some ⟨p, 0, none⟩)] 26) #[.int .u64 rl, .int .u64 rh] 25 1
  have hd := cell_kept hb V.head
  have hS := search44 (bs := w.heap.size) (br := w.heap.size + 1) rl rh (V.kept hb) F hc0 hc1 hc2
  have hT := fun q => search45 (w := World.drewN _ q) (bs := w.heap.size) (br := w.heap.size + 1) rl rh ((V.kept hb).kept (below_drewN (Below.refl _ _) q)) F hc0 hc1 hc2
  have HB : Hid _ := hb
  clear hb V F hc0 hc1 hc2
  show Calls Try.prog 45 _ _ fun e w' => e = .returned (.tuple #[.int .i64 (front (endAhead rl) L), .int .i64 (front (beginBy rh) L)]) ∧ _
  generalize front (endAhead rl) L = kA at *
  generalize front (beginBy rh) L = kB at *
  have HT : Hid _ := hT
  clear hT
  go_enter Try.func45, Try.ntmps45
  go_wp2_with fail
  refine hS.mono ?_
  rintro e w' ⟨rfl, q, rfl⟩
  clear hS
  go_wp2_with fail
  refine (HT.out q).mono ?_
  rintro e w' ⟨rfl, q', rfl⟩
  go_wp2
  go_ret2
  exact ⟨rfl, below_drewN HB.out (q + q')⟩

end Go.Proofs.Ytjbjaklbckhodab
