import Derived.Test.YtaklbofbhanjgaaDoorIvSearch
import Derived.Test.YtaklbofbhanjgaaDoorIvSpec
import Derived.Deep.RegionWith
namespace Go.Proofs.YtaklbofbhanjgaaDoor
open Go.RowKit
set_option maxRecDepth 100000

theorem cell_drewN {w : World} {m : Nat} {ad : Addr} {v : Value} (h : w.cell? ad = some v) : (w.drewN m).cell? ad = some v := h

set_option maxHeartbeats 400000 in
theorem overlappedP_any (p bs br g cap n : Nat) (lo rl rh : Int) (i : Nat) (W : World) (hin : i < n)
    (hs : W.cell? ⟨bs, 0, none⟩ = some (.pointer (some ⟨p, 0, none⟩))) (hp : W.cell? ⟨p, 0, none⟩ = some (.slice (some ⟨g, 0, none⟩) n cap)) (_hx : W.cell? ⟨br, 0, none⟩ = some (.int .u64 rl)) (hy : W.cell? ⟨br, 1, none⟩ = some (.int .u64 rh)) (hc : W.cell? ⟨g, i * 2, none⟩ = some (.int .u64 lo)) :
    Calls Tryd.prog 107 #[.int .i64 i, .pointer (some ⟨bs, 0, none⟩), .pointer (some ⟨br, 0, none⟩)] W fun e w' => e = .returned (.bool (decide (rh ≤ lo))) ∧ ∃ q, w' = W.drewN q := by
  have hiz : (i : Int) < (n : Int) := by omega
  go_enter Tryd.func107, Tryd.ntmps107
  go_wp2
  go_quiet (fail)
  go_wp2
  go_ret
  exact ⟨rfl, nq, rfl⟩

set_option maxHeartbeats 400000 in
theorem touchedP1_any (p bs br g cap n : Nat) (hi rl rh : Int) (i : Nat) (W : World) (hin : i < n)
    (hs : W.cell? ⟨bs, 0, none⟩ = some (.pointer (some ⟨p, 0, none⟩))) (hp : W.cell? ⟨p, 0, none⟩ = some (.slice (some ⟨g, 0, none⟩) n cap)) (hx : W.cell? ⟨br, 0, none⟩ = some (.int .u64 rl)) (_hy : W.cell? ⟨br, 1, none⟩ = some (.int .u64 rh)) (hc : W.cell? ⟨g, i * 2 + 1, none⟩ = some (.int .u64 hi)) :
    Calls Tryd.prog 100 #[.int .i64 i, .pointer (some ⟨bs, 0, none⟩), .pointer (some ⟨br, 0, none⟩)] W fun e w' => e = .returned (.bool (decide (rl ≤ hi))) ∧ ∃ q, w' = W.drewN q := by
  have hiz : (i : Int) < (n : Int) := by omega
  go_enter Tryd.func100, Tryd.ntmps100
  go_wp2
  go_quiet (fail)
  go_wp2
  go_ret
  exact ⟨rfl, nq, rfl⟩

set_option maxHeartbeats 400000 in
theorem touchedP2_any (p bs br g cap n : Nat) (lo rl rh : Int) (i : Nat) (W : World) (hin : i < n)
    (hs : W.cell? ⟨bs, 0, none⟩ = some (.pointer (some ⟨p, 0, none⟩))) (hp : W.cell? ⟨p, 0, none⟩ = some (.slice (some ⟨g, 0, none⟩) n cap)) (_hx : W.cell? ⟨br, 0, none⟩ = some (.int .u64 rl)) (hy : W.cell? ⟨br, 1, none⟩ = some (.int .u64 rh)) (hc : W.cell? ⟨g, i * 2, none⟩ = some (.int .u64 lo)) :
    Calls Tryd.prog 101 #[.int .i64 i, .pointer (some ⟨bs, 0, none⟩), .pointer (some ⟨br, 0, none⟩)] W fun e w' => e = .returned (.bool (decide (rh < lo))) ∧ ∃ q, w' = W.drewN q := by
  have hiz : (i : Int) < (n : Int) := by omega
  go_enter Tryd.func101, Tryd.ntmps101
  go_wp2
  go_quiet (fail)
  go_wp2
  go_ret
  exact ⟨rfl, nq, rfl⟩

theorem cells_pair {w : World} {b : Nat} {x y : Value} {t : TypeId} (h : w.heap[b]? = some (.cells #[x, y] t (0, 0))) : w.cell? ⟨b, 0, none⟩ = some x ∧ w.cell? ⟨b, 1, none⟩ = some y := by
  rw [cell_of_row w b 0 _ t _ h, cell_of_row w b 1 _ t _ h]; exact ⟨rfl, rfl⟩

/-- Which stretches are at the front: those that end at x or ahead of it. -/
def endBy (x : Int) (r : Rg) : Bool := decide (r.2 ≤ x)
def endAhead (x : Int) (r : Rg) : Bool := decide (r.2 < x)
def beginAhead (x : Int) (r : Rg) : Bool := decide (r.1 < x)
def beginBy (x : Int) (r : Rg) : Bool := decide (r.1 ≤ x)

theorem eg52 : ∀ args w, (callFunc 116 args).run Tryd.prog w = .ok (.enter 116 args) w := enters_of Tryd.func116 (by kernel_rfl) rfl
theorem eg51 : ∀ args w, (callFunc 107 args).run Tryd.prog w = .ok (.enter 107 args) w := enters_of Tryd.func107 (by kernel_rfl) rfl
theorem egTch : ∀ args w, (callFunc 100 args).run Tryd.prog w = .ok (.enter 100 args) w := enters_of Tryd.func100 (by kernel_rfl) rfl
theorem eg45 : ∀ args w, (callFunc 101 args).run Tryd.prog w = .ok (.enter 101 args) w := enters_of Tryd.func101 (by kernel_rfl) rfl

/-- The search of firstFrom, over whatever world in which the two boxes lie. -/
theorem search52 {w : World} {p bs bx : Nat} {a : Option Addr} {cap : Nat} {L : List Rg} (x : Int) (V : View w p a cap L) (F : Fit L)
    (hs : w.cell? ⟨bs, 0, none⟩ = some (.pointer (some ⟨p, 0, none⟩))) (hx : w.cell? ⟨bx, 0, none⟩ = some (.int .u64 x)) :
    Calls Tryd.prog 99 #[.int .i64 L.length, .func (.func 116) #[] #[.pointer (some ⟨bs, 0, none⟩), .pointer (some ⟨bx, 0, none⟩)]] w fun e w' => e = .returned (.int .i64 (front (endBy x) L)) ∧ ∃ q, w' = w.drewN q := by
  refine (search_any 116 _ _ L.length (fun i => decide (x < (nth L i).2)) w eg52 (by have := V.few; omega) (fun m i hi => ?_) (fun i j hij hj h => ?_)).mono ?_
  · obtain ⟨g, rfl, h1, h2⟩ := V.row i hi
    rw [nth_eq hi]
    exact firstFromP_any p bs bx g cap L.length x _ i _ hi (cell_drewN hs) (cell_drewN V.head) (cell_drewN hx) (cell_drewN h2)
  · have := F.mono_hi i j hij hj
    simp only [decide_eq_true_eq, nth_eq hj, nth_eq (show i < L.length by omega)] at h ⊢
    omega
  · rintro e w' ⟨k, rfl, hk, h1, h2, q, rfl⟩
    refine ⟨?_, q, rfl⟩
    rw [front_nth (endBy x) L k hk (fun t ht => by have := h1 t ht; simp only [decide_eq_false_iff_not, endBy, decide_eq_true_eq] at this ⊢; omega) (fun t ht hn => by have := h2 t ht hn; simp only [decide_eq_true_eq, endBy, decide_eq_false_iff_not] at this ⊢; omega)]
theorem search51 {w : World} {p bs br : Nat} {a : Option Addr} {cap : Nat} {L : List Rg} (rl rh : Int) (V : View w p a cap L) (F : Fit L)
    (hs : w.cell? ⟨bs, 0, none⟩ = some (.pointer (some ⟨p, 0, none⟩))) (hx : w.cell? ⟨br, 0, none⟩ = some (.int .u64 rl)) (hy : w.cell? ⟨br, 1, none⟩ = some (.int .u64 rh)) :
    Calls Tryd.prog 99 #[.int .i64 L.length, .func (.func 107) #[] #[.pointer (some ⟨bs, 0, none⟩), .pointer (some ⟨br, 0, none⟩)]] w fun e w' => e = .returned (.int .i64 (front (beginAhead rh) L)) ∧ ∃ q, w' = w.drewN q := by
  refine (search_any 107 _ _ L.length (fun i => decide (rh ≤ (nth L i).1)) w eg51 (by have := V.few; omega) (fun m i hi => ?_) (fun i j hij hj h => ?_)).mono ?_
  · obtain ⟨g, rfl, h1, h2⟩ := V.row i hi
    rw [nth_eq hi]
    exact overlappedP_any p bs br g cap L.length _ rl rh i _ hi (cell_drewN hs) (cell_drewN V.head) (cell_drewN hx) (cell_drewN hy) (cell_drewN h1)
  · have := F.mono_lo i j hij hj
    simp only [decide_eq_true_eq, nth_eq hj, nth_eq (show i < L.length by omega)] at h ⊢
    omega
  · rintro e w' ⟨k, rfl, hk, h1, h2, q, rfl⟩
    refine ⟨?_, q, rfl⟩
    rw [front_nth (beginAhead rh) L k hk (fun t ht => by have := h1 t ht; simp only [decide_eq_false_iff_not, beginAhead, decide_eq_true_eq] at this ⊢; omega) (fun t ht hn => by have := h2 t ht hn; simp only [decide_eq_true_eq, beginAhead, decide_eq_false_iff_not] at this ⊢; omega)]
theorem search44 {w : World} {p bs br : Nat} {a : Option Addr} {cap : Nat} {L : List Rg} (rl rh : Int) (V : View w p a cap L) (F : Fit L)
    (hs : w.cell? ⟨bs, 0, none⟩ = some (.pointer (some ⟨p, 0, none⟩))) (hx : w.cell? ⟨br, 0, none⟩ = some (.int .u64 rl)) (hy : w.cell? ⟨br, 1, none⟩ = some (.int .u64 rh)) :
    Calls Tryd.prog 99 #[.int .i64 L.length, .func (.func 100) #[] #[.pointer (some ⟨bs, 0, none⟩), .pointer (some ⟨br, 0, none⟩)]] w fun e w' => e = .returned (.int .i64 (front (endAhead rl) L)) ∧ ∃ q, w' = w.drewN q := by
  refine (search_any 100 _ _ L.length (fun i => decide (rl ≤ (nth L i).2)) w egTch (by have := V.few; omega) (fun m i hi => ?_) (fun i j hij hj h => ?_)).mono ?_
  · obtain ⟨g, rfl, h1, h2⟩ := V.row i hi
    rw [nth_eq hi]
    exact touchedP1_any p bs br g cap L.length _ rl rh i _ hi (cell_drewN hs) (cell_drewN V.head) (cell_drewN hx) (cell_drewN hy) (cell_drewN h2)
  · have := F.mono_hi i j hij hj
    simp only [decide_eq_true_eq, nth_eq hj, nth_eq (show i < L.length by omega)] at h ⊢
    omega
  · rintro e w' ⟨k, rfl, hk, h1, h2, q, rfl⟩
    refine ⟨?_, q, rfl⟩
    rw [front_nth (endAhead rl) L k hk (fun t ht => by have := h1 t ht; simp only [decide_eq_false_iff_not, endAhead, decide_eq_true_eq] at this ⊢; omega) (fun t ht hn => by have := h2 t ht hn; simp only [decide_eq_true_eq, endAhead, decide_eq_false_iff_not] at this ⊢; omega)]
theorem search45 {w : World} {p bs br : Nat} {a : Option Addr} {cap : Nat} {L : List Rg} (rl rh : Int) (V : View w p a cap L) (F : Fit L)
    (hs : w.cell? ⟨bs, 0, none⟩ = some (.pointer (some ⟨p, 0, none⟩))) (hx : w.cell? ⟨br, 0, none⟩ = some (.int .u64 rl)) (hy : w.cell? ⟨br, 1, none⟩ = some (.int .u64 rh)) :
    Calls Tryd.prog 99 #[.int .i64 L.length, .func (.func 101) #[] #[.pointer (some ⟨bs, 0, none⟩), .pointer (some ⟨br, 0, none⟩)]] w fun e w' => e = .returned (.int .i64 (front (beginBy rh) L)) ∧ ∃ q, w' = w.drewN q := by
  refine (search_any 101 _ _ L.length (fun i => decide (rh < (nth L i).1)) w eg45 (by have := V.few; omega) (fun m i hi => ?_) (fun i j hij hj h => ?_)).mono ?_
  · obtain ⟨g, rfl, h1, h2⟩ := V.row i hi
    rw [nth_eq hi]
    exact touchedP2_any p bs br g cap L.length _ rl rh i _ hi (cell_drewN hs) (cell_drewN V.head) (cell_drewN hx) (cell_drewN hy) (cell_drewN h1)
  · have := F.mono_lo i j hij hj
    simp only [decide_eq_true_eq, nth_eq hj, nth_eq (show i < L.length by omega)] at h ⊢
    omega
  · rintro e w' ⟨k, rfl, hk, h1, h2, q, rfl⟩
    refine ⟨?_, q, rfl⟩
    rw [front_nth (beginBy rh) L k hk (fun t ht => by have := h1 t ht; simp only [decide_eq_false_iff_not, beginBy, decide_eq_true_eq] at this ⊢; omega) (fun t ht hn => by have := h2 t ht hn; simp only [decide_eq_true_eq, beginBy, decide_eq_false_iff_not] at this ⊢; omega)]

/-- Two boxes laid behind w. -/
theorem boxes {w : World} (o1 o2 : Obj) : Below w.heap.size w ((w.alloc o1).alloc o2) := ((Below.refl _ _).alloc (Nat.le_refl _) o1).alloc (by simp) o2
theorem box0 {w : World} (cs : Array Value) (t : TypeId) (o2 : Obj) (j : Nat) : ((w.alloc (.cells cs t)).alloc o2).cell? ⟨w.heap.size, j, none⟩ = cs[j]? := by
  rw [cell_of_row _ _ _ cs t (0, 0) (heap_alloc2_old w _ _)]
theorem box1 {w : World} (o1 : Obj) (cs : Array Value) (t : TypeId) (j : Nat) : ((w.alloc o1).alloc (.cells cs t)).cell? ⟨w.heap.size + 1, j, none⟩ = cs[j]? := by
  rw [cell_of_row _ _ _ cs t (0, 0) (heap_alloc2_new w _ _)]

set_option maxHeartbeats 400000 in
theorem firstFrom_any {w : World} {p : Nat} {a : Option Addr} {cap : Nat} {L : List Rg} (x : Int) (V : View w p a cap L) (F : Fit L) :
    Calls Tryd.prog 106 #[.pointer (some ⟨p, 0, none⟩), .int .u64 x] w fun e w' => e = .returned (.int .i64 (front (endBy x) L)) ∧ Below w.heap.size w w' := by
  have hb : Below w.heap.size w ((w.alloc (.cells #[.pointer (some ⟨p, 0, none⟩)] 120)).alloc (.cells #[.int .u64 x] 47)) := boxes _ _
  have hS := search52 (bs := w.heap.size) (bx := w.heap.size + 1) x (V.kept hb) F (box0 _ _ _ 0) (box1 _ _ _ 0)
  have hd := cell_kept hb V.head
  have HB : Hid _ := hb
  clear hb V F
  generalize front (endBy x) L = k at *
  go_enter Tryd.func106, Tryd.ntmps106
  go_wp2_with fail
  refine hS.mono ?_
  rintro e w' ⟨rfl, q, rfl⟩
  go_wp2
  go_ret
  exact ⟨rfl, below_drewN HB.out q⟩

def ovlA (L : List Rg) (r : Rg) : Nat := front (endBy r.1) L
def ovlB (L : List Rg) (r : Rg) : Nat := if r.2 ≤ r.1 then front (endBy r.1) L else front (beginAhead r.2) L
def tchA (L : List Rg) (r : Rg) : Nat := front (endAhead r.1) L
def tchB (L : List Rg) (r : Rg) : Nat := front (beginBy r.2) L

set_option maxHeartbeats 400000 in
theorem overlapped_any {w : World} {p : Nat} {a : Option Addr} {cap : Nat} {L : List Rg} (r : Rg) (V : View w p a cap L) (F : Fit L) :
    Calls Tryd.prog 85 #[.pointer (some ⟨p, 0, none⟩), .agg #[.int .u64 r.1, .int .u64 r.2]] w fun e w' => e = .returned (.tuple #[.int .i64 (ovlA L r), .int .i64 (ovlB L r)]) ∧ Below w.heap.size w w' := by
  obtain ⟨rl, rh⟩ := r
  have hb : Below w.heap.size w ((w.alloc (.cells #[.pointer (some ⟨p, 0, none⟩)] 120)).alloc (.cells #[.int .u64 rl, .int .u64 rh] 92)) := boxes _ _
  have hz : ((w.alloc (.cells #[.pointer (some ⟨p, 0, none⟩)] 120)).alloc (.cells #[.int .u64 rl, .int .u64 rh] 92)).heap.size = w.heap.size + 1 + 1 := by simp
  have hc0 := box0 (w := w) #[.pointer (some ⟨p, 0, none⟩)] 120 (.cells #[.int .u64 rl, .int .u64 rh] 92) 0
  have hc1 := box1 (w := w) (.cells #[.pointer (some ⟨p, 0, none⟩)] 120) #[.int .u64 rl, .int .u64 rh] 92 0
  have hc2 := box1 (w := w) (.cells #[.pointer (some ⟨p, 0, none⟩)] 120) #[.int .u64 rl, .int .u64 rh] 92 1
  have hF := firstFrom_any rl (V.kept hb) F
  have HB : Hid _ := hb
  have HV : Hid _ := V.kept hb
  have HC0 : Hid _ := hc0
  have HC1 : Hid _ := hc1
  have HC2 : Hid _ := hc2
  have HF : Hid _ := F
  clear hb V F hc0 hc1 hc2
  have hA : ovlA L (rl, rh) = front (endBy rl) L := rfl
  have hB : ovlB L (rl, rh) = if rh ≤ rl then front (endBy rl) L else front (beginAhead rh) L := rfl
  by_cases hE : rh ≤ rl
  all_goals
    first | rw [if_pos hE] at hB | rw [if_neg hE] at hB
    rw [hA, hB]
    clear hA hB
    go_enter Tryd.func85, Tryd.ntmps85
    go_wp2_with fail
    refine hF.mono ?_
    rintro e w1 ⟨rfl, hb1⟩
    have d0 := cell_kept hb1 HC0.out
    have d1 := cell_kept hb1 HC1.out
    have d2 := cell_kept hb1 HC2.out
    have hz1 := hb1.size
    rw [hz] at hz1
    have HV1 : Hid _ := HV.out.kept hb1
    have HB1 : Hid _ := HB.out.trans (hb1.mono HB.out.size)
    clear hF hz HV HC0 HC1 HC2 HB hb1
    have hb2 : Below w1.heap.size w1 (w1.alloc (.cells #[.int .u64 rl, .int .u64 rh] 92)) := (Below.refl _ _).alloc (Nat.le_refl _) _
    have e0 := cell_kept hb2 d0
    have e1 := cell_kept hb2 d1
    have e2 := cell_kept hb2 d2
    have hh := cell_kept hb2 HV1.out.head
    have hS := search51 (bs := w.heap.size) (br := w.heap.size + 1) rl rh (HV1.out.kept hb2) HF.out e0 e1 e2
    have HB2 : Hid _ := HB1.out.trans (hb2.mono HB1.out.size)
    clear hb2 HB1 HF HV1
  · go_wp2_with fail
    refine (empty_any rl rh _).mono ?_
    rintro e w2 ⟨rfl, rfl⟩
    go_wp2
    go_ret2
    exact ⟨rfl, HB2.out⟩
  · go_wp2_with fail
    refine (empty_any rl rh _).mono ?_
    rintro e w2 ⟨rfl, rfl⟩
    go_wp2_with fail
    refine hS.mono ?_
    rintro e w3 ⟨rfl, q, rfl⟩
    go_wp2
    go_ret2
    exact ⟨rfl, below_drewN HB2.out q⟩

set_option maxHeartbeats 400000 in
theorem touched_any {w : World} {p : Nat} {a : Option Addr} {cap : Nat} {L : List Rg} (r : Rg) (V : View w p a cap L) (F : Fit L) :
    Calls Tryd.prog 82 #[.pointer (some ⟨p, 0, none⟩), .agg #[.int .u64 r.1, .int .u64 r.2]] w fun e w' => e = .returned (.tuple #[.int .i64 (tchA L r), .int .i64 (tchB L r)]) ∧ Below w.heap.size w w' := by
  obtain ⟨rl, rh⟩ := r
  have hb : Below w.heap.size w ((w.alloc (.cells #[.pointer (some ⟨p, 0, none⟩)] 120)).alloc (.cells #[.int .u64 rl, .int .u64 rh] 92)) := boxes _ _
  have hc0 := box0 (w := w) #[.pointer (some ⟨p, 0, none⟩)] 120 (.cells #[.int .u64 rl, .int .u64 rh] 92) 0
  have hc1 := box1 (w := w) (.cells #[.pointer (some ⟨p, 0, none⟩)] 120) #[.int .u64 rl, .int .u64 rh] 92 0
  have hc2 := box1 (w := w) (.cells #[.pointer (some ⟨p, 0, none⟩)] 120) #[.int .u64 rl, .int .u64 rh] 92 1
  have hd := cell_kept hb V.head
  have hS := search44 (bs := w.heap.size) (br := w.heap.size + 1) rl rh (V.kept hb) F hc0 hc1 hc2
  have hT := fun q => search45 (w := World.drewN _ q) (bs := w.heap.size) (br := w.heap.size + 1) rl rh ((V.kept hb).kept (below_drewN (Below.refl _ _) q)) F hc0 hc1 hc2
  have HB : Hid _ := hb
  clear hb V F hc0 hc1 hc2
  show Calls Tryd.prog 82 _ _ fun e w' => e = .returned (.tuple #[.int .i64 (front (endAhead rl) L), .int .i64 (front (beginBy rh) L)]) ∧ _
  generalize front (endAhead rl) L = kA at *
  generalize front (beginBy rh) L = kB at *
  have HT : Hid _ := hT
  clear hT
  go_enter Tryd.func82, Tryd.ntmps82
  go_wp2_with fail
  refine hS.mono ?_
  rintro e w' ⟨rfl, q, rfl⟩
  clear hS
  go_wp2_with fail
  refine (HT.out q).mono ?_
  rintro e w' ⟨rfl, q', rfl⟩
  go_wp2
  go_ret2
  exact ⟨rfl, below_drewN HB.out (q + q')⟩

end Go.Proofs.YtaklbofbhanjgaaDoor
namespace Go.Proofs.YtaklbofbhanjgaaDoor
open Go.RowKit
set_option maxRecDepth 100000

/-- The first number from x on that is not there. -/
def gapOf (L : List Rg) (x : Int) : Int :=
  if front (endBy x) L < L.length ∧ (nth L (front (endBy x) L)).1 ≤ x then (nth L (front (endBy x) L)).2 else x

set_option maxHeartbeats 400000 in
theorem gap_any {w : World} {p : Nat} {a : Option Addr} {cap : Nat} {L : List Rg} (x : Int) (V : View w p a cap L) (F : Fit L) :
    Calls Tryd.prog 84 #[.pointer (some ⟨p, 0, none⟩), .int .u64 x] w fun e w' => e = .returned (.int .u64 (gapOf L x)) ∧ Below w.heap.size w w' := by
  have hF := firstFrom_any x V F
  have HV : Hid _ := V
  clear V F
  by_cases h1 : front (endBy x) L < L.length
  · by_cases h2 : (nth L (front (endBy x) L)).1 ≤ x
    · have e : gapOf L x = (nth L (front (endBy x) L)).2 := by unfold gapOf; exact if_pos ⟨h1, h2⟩
      rw [e]
      obtain ⟨g, rfl, c1, c2⟩ := HV.out.row _ h1
      rw [← nth_eq h1] at c1 c2
      generalize (nth L (front (endBy x) L)) = r at *
      obtain ⟨rl, rh⟩ := r
      simp only at c1 c2 h2
      generalize front (endBy x) L = k at *
      have h1' : (k : Int) < (L.length : Int) := by omega
      have HC1 : Hid _ := c1
      have HC2 : Hid _ := c2
      clear c1 c2 e
      go_enter Tryd.func84, Tryd.ntmps84
      go_wp2_with fail
      refine hF.mono ?_
      rintro e w1 ⟨rfl, hb1⟩
      have d := cell_kept hb1 HV.out.head
      have d1 := cell_kept hb1 HC1.out
      have d2 := cell_kept hb1 HC2.out
      have HB : Hid _ := hb1
      clear hb1 hF HV HC1 HC2
      go_wp2
      go_ret
      exact ⟨rfl, HB.out⟩
    · have e : gapOf L x = x := by unfold gapOf; exact if_neg (fun h => h2 h.2)
      rw [e]
      obtain ⟨g, rfl, c1, c2⟩ := HV.out.row _ h1
      rw [← nth_eq h1] at c1 c2
      generalize (nth L (front (endBy x) L)) = r at *
      obtain ⟨rl, rh⟩ := r
      simp only at c1 c2 h2
      generalize front (endBy x) L = k at *
      have h1' : (k : Int) < (L.length : Int) := by omega
      have HC1 : Hid _ := c1
      have HC2 : Hid _ := c2
      clear c1 c2 e
      go_enter Tryd.func84, Tryd.ntmps84
      go_wp2_with fail
      refine hF.mono ?_
      rintro e w1 ⟨rfl, hb1⟩
      have d := cell_kept hb1 HV.out.head
      have d1 := cell_kept hb1 HC1.out
      have d2 := cell_kept hb1 HC2.out
      have HB : Hid _ := hb1
      clear hb1 hF HV HC1 HC2
      go_wp2
      go_ret
      exact ⟨rfl, HB.out⟩
  · have e : gapOf L x = x := by unfold gapOf; exact if_neg (fun h => h1 h.1)
    rw [e]
    generalize front (endBy x) L = k at *
    have h1' : ¬ (k : Int) < (L.length : Int) := by omega
    clear e
    go_enter Tryd.func84, Tryd.ntmps84
    go_wp2_with fail
    refine hF.mono ?_
    rintro e w1 ⟨rfl, hb1⟩
    have d := cell_kept hb1 HV.out.head
    have HB : Hid _ := hb1
    clear hb1 hF HV
    go_wp2
    go_ret
    exact ⟨rfl, HB.out⟩

set_option maxHeartbeats 400000 in
theorem has_any {w : World} {p : Nat} {a : Option Addr} {cap : Nat} {L : List Rg} (x : Int) (V : View w p a cap L) (F : Fit L) :
    Calls Tryd.prog 61 #[.pointer (some ⟨p, 0, none⟩), .int .u64 x] w fun e w' => e = .returned (.bool (gapOf L x != x)) ∧ Below w.heap.size w w' := by
  have hG := gap_any x V F
  clear V F
  generalize gapOf L x = y at *
  go_enter Tryd.func61, Tryd.ntmps61
  go_wp2_with fail
  refine hG.mono ?_
  rintro e w1 ⟨rfl, hb1⟩
  have HB : Hid _ := hb1
  clear hb1
  go_wp2
  go_ret
  exact ⟨rfl, HB.out⟩

end Go.Proofs.YtaklbofbhanjgaaDoor
namespace Go.Proofs.YtaklbofbhanjgaaDoor
open Go.RowKit
set_option maxRecDepth 100000

/-- How many numbers the stretches have. -/
def total : List Rg → Int
  | [] => 0
  | r :: l => (r.2 - r.1) + total l
theorem total_append (A B : List Rg) : total (A ++ B) = total A + total B := by
  induction A with
  | nil => simp [total]
  | cons a l ih => simp only [List.cons_append, total, ih]; omega
theorem total_snoc (L : List Rg) (k : Nat) (h : k < L.length) : total (L.take (k + 1)) = total (L.take k) + (L[k].2 - L[k].1) := by
  rw [List.take_succ_eq_append_getElem h, total_append]
  simp [total]
/-- Stretches that rise and lie apart have no more numbers than the last one's end. -/
theorem total_le (L : List Rg) (F : Fit L) : ∀ k, k ≤ L.length → 0 ≤ total (L.take k) ∧ (∀ (_ : 0 < k) (hk : k - 1 < L.length), total (L.take k) ≤ L[k - 1].2) := by
  intro k
  induction k with
  | zero => intro _; exact ⟨by simp [total], fun h => by omega⟩
  | succ k ih =>
    intro hk
    have hk' : k < L.length := by omega
    have h := ih (by omega)
    rw [total_snoc L k hk']
    have hf := F.at k hk'
    refine ⟨by omega, fun _ _ => ?_⟩
    simp only [Nat.add_sub_cancel]
    cases k with
    | zero => simp only [List.take_zero, total]; omega
    | succ j =>
      have h2 := h.2 (by omega) (by omega)
      simp only [Nat.add_sub_cancel] at h2
      have h3 := F.lt j (j + 1) (by omega) hk'
      omega
theorem total_bd (L : List Rg) (F : Fit L) (k : Nat) (hk : k ≤ L.length) : 0 ≤ total (L.take k) ∧ total (L.take k) ≤ 18446744073709551615 := by
  have h := total_le L F k hk
  refine ⟨h.1, ?_⟩
  cases k with
  | zero => simp [total]
  | succ k => have h2 := h.2 (by omega) (by omega); simp only [Nat.add_sub_cancel] at h2; have := F.at k (by omega); omega

theorem ovl_le {L : List Rg} (F : Fit L) (r : Rg) : ovlA L r ≤ ovlB L r ∧ ovlB L r ≤ L.length := by
  unfold ovlA ovlB
  by_cases h : r.2 ≤ r.1
  · rw [if_pos h]; exact ⟨Nat.le_refl _, front_le _ _⟩
  · rw [if_neg h]
    refine ⟨Nat.le_of_not_lt fun hlt => ?_, front_le _ _⟩
    have hl := front_le (endBy r.1) L
    have h1 := (front_spec (endBy r.1) L).1 _ (by omega) hlt
    have h2 := (front_spec (beginAhead r.2) L).2 (by omega)
    have hf := F.at (front (beginAhead r.2) L) (by omega)
    simp only [endBy, beginAhead, decide_eq_true_eq, decide_eq_false_iff_not] at h1 h2
    omega
/-- The part of a stretch that lies in r. -/
def clip (r t : Rg) : Rg := (max r.1 t.1, min r.2 t.2)
/-- The stretches of the set that r meets, cut to r. -/
def clipL (L : List Rg) (r : Rg) : List Rg := ((L.take (ovlB L r)).drop (ovlA L r)).map (clip r)
theorem ovl_meets {L : List Rg} (F : Fit L) (r : Rg) (i : Nat) (hA : ovlA L r ≤ i) (hB : i < ovlB L r) (hi : i < L.length) : r.1 < L[i].2 ∧ L[i].1 < r.2 ∧ r.1 < r.2 := by
  unfold ovlA at hA
  unfold ovlB at hB
  by_cases h : r.2 ≤ r.1
  · rw [if_pos h] at hB; omega
  · rw [if_neg h] at hB
    have h1 := (front_spec (endBy r.1) L).2 (by omega)
    have h2 := (front_spec (beginAhead r.2) L).1 i hi hB
    have h3 := F.mono_hi _ i hA hi
    simp only [endBy, beginAhead, decide_eq_true_eq, decide_eq_false_iff_not] at h1 h2
    omega
theorem clipL_length {L : List Rg} (F : Fit L) (r : Rg) : (clipL L r).length = ovlB L r - ovlA L r := by
  have := ovl_le F r
  simp only [clipL, List.length_map, List.length_drop, List.length_take]; omega
theorem clipL_get {L : List Rg} (F : Fit L) (r : Rg) (k : Nat) (hk : k < (clipL L r).length) : ∃ (h : ovlA L r + k < L.length), (clipL L r)[k] = clip r L[ovlA L r + k] := by
  have h1 := clipL_length F r
  have h2 := ovl_le F r
  refine ⟨by omega, ?_⟩
  simp [clipL]
theorem clipL_fit {L : List Rg} (F : Fit L) (r : Rg) (h0 : 0 ≤ r.1) (h1 : r.2 ≤ 18446744073709551615) : Fit (clipL L r) := by
  have hl := clipL_length F r
  have ho := ovl_le F r
  constructor
  · intro t ht
    obtain ⟨k, hk, rfl⟩ := List.getElem_of_mem ht
    obtain ⟨h, e⟩ := clipL_get F r k hk
    rw [e]
    have hm := ovl_meets F r (ovlA L r + k) (by omega) (by omega) h
    have hf := F.at _ h
    unfold clip
    simp only
    omega
  · rw [List.pairwise_iff_getElem]
    intro i j hi hj hij
    obtain ⟨h, e⟩ := clipL_get F r i hi
    obtain ⟨h', e'⟩ := clipL_get F r j hj
    rw [e, e']
    have := F.lt (ovlA L r + i) (ovlA L r + j) (by omega) h'
    unfold clip
    simp only
    omega

theorem go_min (a b : Int) : (if b < a then b else a) = min a b := by split <;> omega
theorem go_max (a b : Int) : (if a < b then b else a) = max a b := by split <;> omega

set_option maxHeartbeats 400000 in
theorem common_any {w : World} {p : Nat} {a : Option Addr} {cap : Nat} {L : List Rg} (r : Rg) (h0 : 0 ≤ r.1) (h1 : r.2 ≤ 18446744073709551615) (V : View w p a cap L) (F : Fit L) :
    Calls Tryd.prog 81 #[.pointer (some ⟨p, 0, none⟩), .agg #[.int .u64 r.1, .int .u64 r.2]] w fun e w' => e = .returned (.int .u64 (total (clipL L r))) ∧ Below w.heap.size w w' := by
  have hCF := clipL_fit F r h0 h1
  have hCL := clipL_length F r
  have hle := ovl_le F r
  have hCG := clipL_get F r
  obtain ⟨rl, rh⟩ := r
  have hb : Below w.heap.size w (w.alloc (.cells #[.int .u64 rl, .int .u64 rh] 92)) := (Below.refl _ _).alloc (Nat.le_refl _) _
  have hc0 : (w.alloc (.cells #[.int .u64 rl, .int .u64 rh] 92)).cell? ⟨w.heap.size, 0, none⟩ = some (.int .u64 rl) := by rw [cell_of_row _ _ _ _ _ _ (heap_alloc_new w _)]; rfl
  have hc1 : (w.alloc (.cells #[.int .u64 rl, .int .u64 rh] 92)).cell? ⟨w.heap.size, 1, none⟩ = some (.int .u64 rh) := by rw [cell_of_row _ _ _ _ _ _ (heap_alloc_new w _)]; rfl
  have hz : (w.alloc (.cells #[.int .u64 rl, .int .u64 rh] 92)).heap.size = w.heap.size + 1 := by simp
  have hO := overlapped_any (rl, rh) (V.kept hb) F
  simp only at hO
  have HV : Hid _ := V.kept hb
  have HB : Hid _ := hb
  have HC0 : Hid _ := hc0
  have HC1 : Hid _ := hc1
  have HF : Hid (Fit (clipL L (rl, rh))) := hCF
  have HG : Hid _ := hCG
  clear V F hb hc0 hc1 hCF hCG
  generalize ovlA L (rl, rh) = A at *
  generalize ovlB L (rl, rh) = B at *
  generalize clipL L (rl, rh) = C at *
  have HCL : Hid _ := hCL
  clear hCL
  go_enter Tryd.func81, Tryd.ntmps81
  go_wp2_with fail
  refine hO.mono ?_
  rintro e w1 ⟨rfl, hb1⟩
  have HV1 : Hid _ := HV.out.kept hb1
  have d0 := cell_kept hb1 HC0.out
  have d1 := cell_kept hb1 HC1.out
  have hz1 := hb1.size
  rw [hz] at hz1
  have HB1 : Hid _ := HB.out.trans (hb1.mono HB.out.size)
  clear hO hb1 hz HV HB HC0 HC1
  have hd := HV1.out.head
  have hAl : (A : Int) ≤ (L.length : Int) := by omega
  have hAB : (A : Int) ≤ (B : Int) := by omega
  have hfew := HV1.out.few
  have hBc : (B : Int) ≤ (cap : Int) := by have := HV1.out.le; omega
  by_cases hlt : A < B
  · obtain ⟨g, rfl, _, _⟩ := HV1.out.row A (by omega)
    have hAc : ¬ cap = A := by omega
    go_wp2
    go_loopw [5, 24] (fun n i wr => ∃ k : Nat, k ≤ B - A ∧ i = .int .i64 k ∧ n = .int .u64 (total (C.take k)) ∧ Below w1.heap.size w1 wr) (fun _ i _ => (B - A) - (intOf i).toNat)
    case atStart => exact ⟨0, Nat.zero_le _, rfl, rfl, Below.refl _ _⟩
    case round =>
      obtain ⟨k, hk, rfl, rfl, hb⟩ := hrel
      by_cases hkl : k < B - A
      · have hkC : k < C.length := by rw [HCL.out]; exact hkl
        obtain ⟨c1, c2⟩ := HV1.out.at (A + k) (by omega)
        obtain ⟨hh, hcl⟩ := HG.out k hkC
        have e1 := cell_kept hb c1
        have e2 := cell_kept hb c2
        have f0 := fun o => cell_kept ((Below.refl _ wr).alloc (Nat.le_refl _) o) (cell_kept hb d0)
        have f1 := fun o => cell_kept ((Below.refl _ wr).alloc (Nat.le_refl _) o) (cell_kept hb d1)
        have hs := total_snoc C k hkC
        have hbd := total_bd C HF.out k (by omega)
        have hbd2 := total_bd C HF.out (k + 1) hkC
        have hf := HF.out.at k hkC
        rw [hcl] at hs hf
        clear c1 c2 hcl d0 d1
        generalize L[A + k] = r at *
        obtain ⟨tl, th⟩ := r
        simp only [clip] at e1 e2 hs hf
        rw [show (A + k) * 2 = A * 2 + k * 2 by omega] at e1
        rw [show (A + k) * 2 + 1 = A * 2 + k * 2 + 1 by omega] at e2
        generalize total (C.take k) = t at *
        rw [hs] at hbd2
        have HS : Hid _ := hs
        have HB2 : Hid _ := hb
        clear hs hb
        go_wp2
        go_roundw
        case rel => exact ⟨k + 1, hkl, by go_num, by rw [HS.out, go_min, go_max], HB2.out.alloc HB2.out.size _⟩
        case measure => simp [intOf]; omega
      · have e : k = C.length := by rw [HCL.out]; omega
        subst e
        have HB2 : Hid _ := hb
        have hkk : ¬ (C.length : Int) < ((B - A : Nat) : Int) := by omega
        clear hb
        rw [List.take_length]
        go_wp2
        go_ret
        exact ⟨rfl, HB1.out.trans (HB2.out.mono HB1.out.size)⟩
  · have e : A = B := by omega
    subst e
    have hC : C = [] := List.eq_nil_of_length_eq_zero (by rw [HCL.out]; omega)
    subst hC
    rcases HV1.out.shape with ⟨rfl, rfl⟩ | ⟨g, rfl⟩
    · have hA0 : A = 0 := by omega
      subst hA0
      go_wp2
      refine wp_loop_rounds 1 ?_
      rw [rounds_succ]
      go_wp2
      go_ret
      exact ⟨rfl, HB1.out⟩
    · go_wp2
      all_goals refine wp_loop_rounds 1 ?_
      all_goals rw [rounds_succ]
      all_goals go_wp2
      all_goals go_ret
      all_goals exact ⟨rfl, HB1.out⟩

end Go.Proofs.YtaklbofbhanjgaaDoor
