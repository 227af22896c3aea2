import Derived.Test.YtnflgkobedbemaaGreatDoorRows
import Derived.WalkKit
import Derived.WalkSpells
import Derived.WalkLawsBesides
import Derived.BigQuiet
import Derived.Deep.QuietTactic
import Derived.Deep.LoopGhost
import Derived.Deep.Draws
import Derived.RegionTactic
import Derived.Shelf.Abstract
import Derived.Deep.RegionWith
import Derived.Laws.CopyOwn
import Derived.Lib.AppendZerosOnto
import Derived.Lib.Overlaps
namespace Go.Proofs.YtnflgkobedbemaaGreatDoor
open Go.RowKit
set_option maxRecDepth 100000

set_option maxHeartbeats 400000 in
theorem firstFromP_any (p bs bx g cap n : Nat) (x hi : Int) (i : Nat) (W : World) (hin : i < n)
    (hs : W.cell? ⟨bs, 0, none⟩ = some (.pointer (some ⟨p, 0, none⟩))) (hp : W.cell? ⟨p, 0, none⟩ = some (.slice (some ⟨g, 0, none⟩) n cap)) (hx : W.cell? ⟨bx, 0, none⟩ = some (.int .u64 x)) (hc : W.cell? ⟨g, i * 2 + 1, none⟩ = some (.int .u64 hi)) :
    Calls Tryz.prog 164 #[.int .i64 i, .pointer (some ⟨bs, 0, none⟩), .pointer (some ⟨bx, 0, none⟩)] W fun e w' => e = .returned (.bool (decide (x < hi))) ∧ ∃ q, w' = W.drewN q := by
  have hiz : (i : Int) < (n : Int) := by omega
  go_enter Tryz.func164, Tryz.ntmps164
  go_wp2
  go_quiet (fail)
  go_wp2
  go_ret
  exact ⟨rfl, nq, rfl⟩

end Go.Proofs.YtnflgkobedbemaaGreatDoor

namespace Go.Proofs.YtnflgkobedbemaaGreatDoor
open Go.RowKit
set_option maxRecDepth 100000

/-- A stretch: from its first number on, ahead of its second. -/
abbrev Rg := Int × Int
/-- The cells of a list of stretches. -/
def flat (L : List Rg) : List Value := L.flatMap fun r => [.int .u64 r.1, .int .u64 r.2]
theorem length_flat (L : List Rg) : (flat L).length = L.length * 2 := by
  unfold flat
  induction L with
  | nil => rfl
  | cons a l ih => simp only [List.flatMap_cons, List.length_append, List.length_cons, List.length_nil, ih]; omega
theorem flat_cons (r : Rg) (B : List Rg) : flat (r :: B) = .int .u64 r.1 :: .int .u64 r.2 :: flat B := by simp [flat]
theorem flat_get (L : List Rg) : ∀ i (h : i < L.length), (flat L)[i * 2]? = some (.int .u64 (L[i]).1) ∧ (flat L)[i * 2 + 1]? = some (.int .u64 (L[i]).2) := by
  induction L with
  | nil => intro i h; simp at h
  | cons a l ih =>
    intro i h
    rw [flat_cons]
    cases i with
    | zero => simp
    | succ i =>
      have := ih i (by simpa using h)
      rw [show (i + 1) * 2 = i * 2 + 1 + 1 by omega]
      simpa using this
theorem flat_one (L : List Rg) : ∀ v ∈ flat L, v.oneCell' = true := by
  intro v hv
  simp only [flat, List.mem_flatMap, List.mem_cons, List.not_mem_nil, or_false] at hv
  obtain ⟨r, _, rfl | rfl⟩ := hv <;> rfl

/-- How many at the front are so. -/
def front (q : Rg → Bool) (L : List Rg) : Nat := (L.takeWhile q).length
theorem front_eq (q : Rg → Bool) (L : List Rg) : ∀ k, k ≤ L.length → (∀ t (h : t < L.length), t < k → q L[t] = true) → (∀ (h : k < L.length), q L[k] = false) → front q L = k := by
  unfold front
  induction L with
  | nil => intro k hk _ _; simp at hk; simp [hk]
  | cons a l ih =>
    intro k hk h1 h2
    cases k with
    | zero => have := h2 (by simp); simp at this; simp [this]
    | succ k =>
      have ha : q a = true := h1 0 (by simp) (by omega)
      rw [List.takeWhile_cons, if_pos ha, List.length_cons, ih k (by simpa using hk) (fun t h ht => h1 (t + 1) (by simpa using h) (by omega)) (fun h => h2 (by simpa using h))]
/-- A set's stretches, as they must be: none empty, rising, apart. -/
def Fit (L : List Rg) : Prop := (∀ r ∈ L, 0 ≤ r.1 ∧ r.1 < r.2 ∧ r.2 ≤ 18446744073709551615) ∧ L.Pairwise (fun a b => a.2 < b.1)
theorem Fit.at {L : List Rg} (h : Fit L) (i : Nat) (hi : i < L.length) : 0 ≤ (L[i]).1 ∧ (L[i]).1 < (L[i]).2 ∧ (L[i]).2 ≤ 18446744073709551615 := h.1 _ (List.getElem_mem hi)
theorem Fit.lt {L : List Rg} (h : Fit L) (i j : Nat) (hij : i < j) (hj : j < L.length) : (L[i]).2 < (L[j]).1 := (List.pairwise_iff_getElem.1 h.2) i j (by omega) hj hij
theorem Fit.mono_hi {L : List Rg} (h : Fit L) (i j : Nat) (hij : i ≤ j) (hj : j < L.length) : (L[i]).2 ≤ (L[j]).2 := by
  by_cases e : i = j
  · subst e; omega
  · have := h.lt i j (by omega) hj; have := h.at j hj; omega
/-- The i-th stretch (where there is one). -/
def nth (L : List Rg) (i : Nat) : Rg := L[i]?.getD (0, 0)
theorem nth_eq {L : List Rg} {i : Nat} (h : i < L.length) : nth L i = L[i] := by simp [nth, h]
theorem front_nth (q : Rg → Bool) (L : List Rg) (k : Nat) (hk : k ≤ L.length) (h1 : ∀ t, t < k → q (nth L t) = true) (h2 : ∀ t, k ≤ t → t < L.length → q (nth L t) = false) : front q L = k :=
  front_eq q L k hk (fun t h ht => by rw [← nth_eq h]; exact h1 t ht) (fun h => by rw [← nth_eq h]; exact h2 k (Nat.le_refl _) h)

/-- What reading functions take: where the list's head lies, and its cells. -/
structure View (w : World) (p : Nat) (a : Option Addr) (cap : Nat) (L : List Rg) : Prop where
  head : w.cell? ⟨p, 0, none⟩ = some (.slice a L.length cap)
  row : ∀ i (h : i < L.length), ∃ g, a = some ⟨g, 0, none⟩ ∧ w.cell? ⟨g, i * 2, none⟩ = some (.int .u64 (L[i]).1) ∧ w.cell? ⟨g, i * 2 + 1, none⟩ = some (.int .u64 (L[i]).2)
  le : L.length ≤ cap
  cp : cap ≤ maxLen
  few : L.length < 1152921504606846976
  shape : (a = none ∧ cap = 0) ∨ ∃ g, a = some ⟨g, 0, none⟩

theorem cell_kept {w w' : World} (hb : Below w.heap.size w w') {ad : Addr} {v : Value} (h : w.cell? ad = some v) : w'.cell? ad = some v :=
  (hb.cell (World.block_lt_of_cell? w ad h)).trans h

theorem View.kept {w w' : World} {p : Nat} {a : Option Addr} {cap : Nat} {L : List Rg} (V : View w p a cap L) (hb : Below w.heap.size w w') : View w' p a cap L :=
  ⟨cell_kept hb V.head, fun i h => by obtain ⟨g, h1, h2, h3⟩ := V.row i h; exact ⟨g, h1, cell_kept hb h2, cell_kept hb h3⟩, V.le, V.cp, V.few, V.shape⟩
theorem View.at {w : World} {p g : Nat} {cap : Nat} {L : List Rg} (V : View w p (some ⟨g, 0, none⟩) cap L) (i : Nat) (h : i < L.length) : w.cell? ⟨g, i * 2, none⟩ = some (.int .u64 (L[i]).1) ∧ w.cell? ⟨g, i * 2 + 1, none⟩ = some (.int .u64 (L[i]).2) := by
  obtain ⟨g', e, h1, h2⟩ := V.row i h
  simp at e
  subst e
  exact ⟨h1, h2⟩
theorem below_drewN {B : Nat} {a w : World} (h : Below B a w) (q : Nat) : Below B a (w.drewN q) := ⟨h.os, h.tape, h.output, h.size, h.block⟩

end Go.Proofs.YtnflgkobedbemaaGreatDoor

namespace Go.Proofs.YtnflgkobedbemaaGreatDoor
open Go.RowKit
set_option maxRecDepth 100000

set_option maxHeartbeats 1000000 in
theorem search_any (g : Nat) (c0 c1 : Value) (n : Nat) (p : Nat → Bool) (w : World) (eg : ∀ args w, (callFunc g args).run Tryz.prog w = .ok (.enter g args) w) (hsz : n < 4611686018427387904)
    (hf : ∀ (m i : Nat), i < n → Calls Tryz.prog g #[.int .i64 i, c0, c1] (w.drewN m) fun e w' => e = .returned (.bool (p i)) ∧ ∃ q, w' = (w.drewN m).drewN q)
    (hmono : ∀ a b, a ≤ b → b < n → p a = true → p b = true) :
    Calls Tryz.prog 163 #[.int .i64 n, .func (.func g) #[] #[c0, c1]] w fun e w' => ∃ k : Nat, e = .returned (.int .i64 k) ∧ k ≤ n ∧ (∀ t, t < k → p t = false) ∧ (∀ t, k ≤ t → t < n → p t = true) ∧ ∃ q, w' = w.drewN q := by
  have HF : Aside _ := hf
  have M : Aside _ := hmono
  clear hf hmono
  go_enter Tryz.func163, Tryz.ntmps163
  go_wp2
  go_loopg [5, 6] n (fun kx s5 s6 wr => ∃ (lo hi q : Nat), s5 = .int .i64 lo ∧ s6 = .int .i64 hi ∧ lo ≤ hi ∧ hi ≤ n ∧ hi - lo ≤ kx ∧ wr = w.drewN q ∧
    Aside ((∀ t, t < lo → p t = false) ∧ (∀ t, hi ≤ t → t < n → p t = true)))
  case atStart => exact ⟨0, n, 0, rfl, rfl, Nat.zero_le _, Nat.le_refl _, by omega, rfl, (⟨fun t ht => absurd ht (Nat.not_lt_zero _), fun t h1 h2 => by omega⟩ : (∀ t, t < 0 → p t = false) ∧ (∀ t, n ≤ t → t < n → p t = true))⟩
  case round =>
    obtain ⟨lo, hi, q, rfl, rfl, hlh, hin, hg, rfl, I⟩ := hrel
    by_cases hlt : lo < hi
    · have hc := HF.out q ((lo + hi) / 2) (by omega)
      rw [show (((lo + hi) / 2 : Nat) : Int) = ((lo : Int) + (hi : Int)) / 2 by omega] at hc
      cases hp : p ((lo + hi) / 2) <;> rw [hp] at hc
      · have HP : Aside (p ((lo + hi) / 2) = false) := hp
        clear hp
        go_wp2_with (go_at_fn g; refine hc.mono ?_; rintro e w' ⟨rfl, nq, rfl⟩)
        go_roundg (hi - ((lo + hi) / 2 + 1))
        case measure => omega
        case rel =>
          have I2 : Aside ((∀ t, t < (lo + hi) / 2 + 1 → p t = false) ∧ (∀ t, hi ≤ t → t < n → p t = true)) := ⟨fun t ht => (by
            cases h : p t with
            | false => rfl
            | true => have := M.out t ((lo + hi) / 2) (by omega) (by omega) h; rw [HP.out] at this; cases this), I.out.2⟩
          exact ⟨(lo + hi) / 2 + 1, hi, q + nq, by rw [show ((lo : Int) + (hi : Int)) / 2 + 1 = (((lo + hi) / 2 + 1 : Nat) : Int) by omega], rfl, by omega, hin, Nat.le_refl _, rfl, I2⟩
      · have HP : Aside (p ((lo + hi) / 2) = true) := hp
        clear hp
        go_wp2_with (go_at_fn g; refine hc.mono ?_; rintro e w' ⟨rfl, nq, rfl⟩)
        go_roundg ((lo + hi) / 2 - lo)
        case measure => omega
        case rel =>
          have I2 : Aside ((∀ t, t < lo → p t = false) ∧ (∀ t, (lo + hi) / 2 ≤ t → t < n → p t = true)) := ⟨I.out.1, fun t ht htn => M.out ((lo + hi) / 2) t ht htn HP.out⟩
          exact ⟨lo, (lo + hi) / 2, q + nq, rfl, by rw [show ((lo : Int) + (hi : Int)) / 2 = (((lo + hi) / 2 : Nat) : Int) by omega], by omega, by omega, Nat.le_refl _, rfl, I2⟩
    · obtain rfl : hi = lo := by omega
      go_wp2
      go_ret
      exact ⟨hi, rfl, hin, I.out.1, I.out.2, q, rfl⟩

end Go.Proofs.YtnflgkobedbemaaGreatDoor

namespace Go.Proofs.YtnflgkobedbemaaGreatDoor
open Go.RowKit
set_option maxRecDepth 100000

theorem cell_drewN {w : World} {m : Nat} {ad : Addr} {v : Value} (h : w.cell? ad = some v) : (w.drewN m).cell? ad = some v := h

/-- Which stretches are at the front: those that end at x or ahead of it. -/
def endBy (x : Int) (r : Rg) : Bool := decide (r.2 ≤ x)
theorem eg52 : ∀ args w, (callFunc 164 args).run Tryz.prog w = .ok (.enter 164 args) w := enters_of Tryz.func164 (by kernel_rfl) rfl
/-- The search of firstFrom, over whatever world in which the two boxes lie. -/
theorem search52 {w : World} {p bs bx : Nat} {a : Option Addr} {cap : Nat} {L : List Rg} (x : Int) (V : View w p a cap L) (F : Fit L)
    (hs : w.cell? ⟨bs, 0, none⟩ = some (.pointer (some ⟨p, 0, none⟩))) (hx : w.cell? ⟨bx, 0, none⟩ = some (.int .u64 x)) :
    Calls Tryz.prog 163 #[.int .i64 L.length, .func (.func 164) #[] #[.pointer (some ⟨bs, 0, none⟩), .pointer (some ⟨bx, 0, none⟩)]] w fun e w' => e = .returned (.int .i64 (front (endBy x) L)) ∧ ∃ q, w' = w.drewN q := by
  refine (search_any 164 _ _ L.length (fun i => decide (x < (nth L i).2)) w eg52 (by have := V.few; omega) (fun m i hi => ?_) (fun i j hij hj h => ?_)).mono ?_
  · obtain ⟨g, rfl, h1, h2⟩ := V.row i hi
    rw [nth_eq hi]
    exact firstFromP_any p bs bx g cap L.length x _ i _ hi (cell_drewN hs) (cell_drewN V.head) (cell_drewN hx) (cell_drewN h2)
  · have := F.mono_hi i j hij hj
    simp only [decide_eq_true_eq, nth_eq hj, nth_eq (show i < L.length by omega)] at h ⊢
    omega
  · rintro e w' ⟨k, rfl, hk, h1, h2, q, rfl⟩
    refine ⟨?_, q, rfl⟩
    rw [front_nth (endBy x) L k hk (fun t ht => by have := h1 t ht; simp only [decide_eq_false_iff_not, endBy, decide_eq_true_eq] at this ⊢; omega) (fun t ht hn => by have := h2 t ht hn; simp only [decide_eq_true_eq, endBy, decide_eq_false_iff_not] at this ⊢; omega)]
/-- Two boxes laid behind w. -/
theorem boxes {w : World} (o1 o2 : Obj) : Below w.heap.size w ((w.alloc o1).alloc o2) := ((Below.refl _ _).alloc (Nat.le_refl _) o1).alloc (by simp) o2
theorem box0 {w : World} (cs : Array Value) (t : TypeId) (o2 : Obj) (j : Nat) : ((w.alloc (.cells cs t)).alloc o2).cell? ⟨w.heap.size, j, none⟩ = cs[j]? := by
  rw [cell_of_row _ _ _ cs t (0, 0) (heap_alloc2_old w _ _)]
theorem box1 {w : World} (o1 : Obj) (cs : Array Value) (t : TypeId) (j : Nat) : ((w.alloc o1).alloc (.cells cs t)).cell? ⟨w.heap.size + 1, j, none⟩ = cs[j]? := by
  rw [cell_of_row _ _ _ cs t (0, 0) (heap_alloc2_new w _ _)]

set_option maxHeartbeats 400000 in
theorem firstFrom_any {w : World} {p : Nat} {a : Option Addr} {cap : Nat} {L : List Rg} (x : Int) (V : View w p a cap L) (F : Fit L) :
    Calls Tryz.prog 138 #[.pointer (some ⟨p, 0, none⟩), .int .u64 x] w fun e w' => e = .returned (.int .i64 (front (endBy x) L)) ∧ Below w.heap.size w w' := by
  have hb : Below w.heap.size w ((w.alloc (.cells #[.pointer (some ⟨p, 0, none⟩)] 160)).alloc (.cells #[.int .u64 x] 23)) := boxes _ _
  have hS := search52 (bs := w.heap.size) (bx := w.heap.size + 1) x (V.kept hb) F (box0 _ _ _ 0) (box1 _ _ _ 0)
  have hd := cell_kept hb V.head
  have HB : Hid _ := hb
  clear hb V F
  generalize front (endBy x) L = k at *
  go_enter Tryz.func138, Tryz.ntmps138
  go_wp2_with fail
  refine hS.mono ?_
  rintro e w' ⟨rfl, q, rfl⟩
  go_wp2
  go_ret
  exact ⟨rfl, below_drewN HB.out q⟩

end Go.Proofs.YtnflgkobedbemaaGreatDoor

namespace Go.Proofs.YtnflgkobedbemaaGreatDoor
open Go.RowKit
set_option maxRecDepth 100000

/-- The first number from x on that is not there. -/
def gapOf (L : List Rg) (x : Int) : Int :=
  if front (endBy x) L < L.length ∧ (nth L (front (endBy x) L)).1 ≤ x then (nth L (front (endBy x) L)).2 else x

set_option maxHeartbeats 400000 in
theorem gap_any {w : World} {p : Nat} {a : Option Addr} {cap : Nat} {L : List Rg} (x : Int) (V : View w p a cap L) (F : Fit L) :
    Calls Tryz.prog 114 #[.pointer (some ⟨p, 0, none⟩), .int .u64 x] w fun e w' => e = .returned (.int .u64 (gapOf L x)) ∧ Below w.heap.size w w' := by
  have hF := firstFrom_any x V F
  have HV : Hid _ := V
  clear V F
  by_cases h1 : front (endBy x) L < L.length
  · by_cases h2 : (nth L (front (endBy x) L)).1 ≤ x
    · have e : gapOf L x = (nth L (front (endBy x) L)).2 := by unfold gapOf; exact if_pos ⟨h1, h2⟩
      rw [e]
      obtain ⟨g, rfl, c1, c2⟩ := HV.out.row _ h1
      rw [← nth_eq h1] at c1 c2
      generalize (nth L (front (endBy x) L)) = r at *
      obtain ⟨rl, rh⟩ := r
      simp only at c1 c2 h2
      generalize front (endBy x) L = k at *
      have h1' : (k : Int) < (L.length : Int) := by omega
      have HC1 : Hid _ := c1
      have HC2 : Hid _ := c2
      clear c1 c2 e
      go_enter Tryz.func114, Tryz.ntmps114
      go_wp2_with fail
      refine hF.mono ?_
      rintro e w1 ⟨rfl, hb1⟩
      have d := cell_kept hb1 HV.out.head
      have d1 := cell_kept hb1 HC1.out
      have d2 := cell_kept hb1 HC2.out
      have HB : Hid _ := hb1
      clear hb1 hF HV HC1 HC2
      go_wp2
      go_ret
      exact ⟨rfl, HB.out⟩
    · have e : gapOf L x = x := by unfold gapOf; exact if_neg (fun h => h2 h.2)
      rw [e]
      obtain ⟨g, rfl, c1, c2⟩ := HV.out.row _ h1
      rw [← nth_eq h1] at c1 c2
      generalize (nth L (front (endBy x) L)) = r at *
      obtain ⟨rl, rh⟩ := r
      simp only at c1 c2 h2
      generalize front (endBy x) L = k at *
      have h1' : (k : Int) < (L.length : Int) := by omega
      have HC1 : Hid _ := c1
      have HC2 : Hid _ := c2
      clear c1 c2 e
      go_enter Tryz.func114, Tryz.ntmps114
      go_wp2_with fail
      refine hF.mono ?_
      rintro e w1 ⟨rfl, hb1⟩
      have d := cell_kept hb1 HV.out.head
      have d1 := cell_kept hb1 HC1.out
      have d2 := cell_kept hb1 HC2.out
      have HB : Hid _ := hb1
      clear hb1 hF HV HC1 HC2
      go_wp2
      go_ret
      exact ⟨rfl, HB.out⟩
  · have e : gapOf L x = x := by unfold gapOf; exact if_neg (fun h => h1 h.1)
    rw [e]
    generalize front (endBy x) L = k at *
    have h1' : ¬ (k : Int) < (L.length : Int) := by omega
    clear e
    go_enter Tryz.func114, Tryz.ntmps114
    go_wp2_with fail
    refine hF.mono ?_
    rintro e w1 ⟨rfl, hb1⟩
    have d := cell_kept hb1 HV.out.head
    have HB : Hid _ := hb1
    clear hb1 hF HV
    go_wp2
    go_ret
    exact ⟨rfl, HB.out⟩

end Go.Proofs.YtnflgkobedbemaaGreatDoor

namespace Go.Proofs.YtnflgkobedbemaaGreatDoor
open Go.RowKit
set_option maxRecDepth 100000

/-- How many numbers the stretches have. -/
def total : List Rg → Int
  | [] => 0
  | r :: l => (r.2 - r.1) + total l
end Go.Proofs.YtnflgkobedbemaaGreatDoor

namespace Go.Proofs.YtnflgkobedbemaaGreatDoor
open Go.RowKit
set_option maxRecDepth 100000

theorem info29 : (Tryz.prog.info? 144).map (fun i => (i.zero, i.size, i.bytes)) = some (some (.agg #[.int .u64 0, .int .u64 0]), 2, 16) := by kernel_rfl

theorem grown_setRow (w : World) (g : Nat) (cs : Array Value) : w.grownBy (w.setRow g cs) (some g) :=
  ⟨rfl, rfl, rfl, by simp, fun k _ hk => setRow_other w g k cs (fun e => hk (by rw [e]))⟩
theorem grown_refl (w : World) (row : Option Nat) : w.grownBy w row := ⟨rfl, rfl, rfl, Nat.le_refl _, fun _ _ _ => rfl⟩

/-- 'copy' over stretches, the target in a row that is known whole. -/
theorem run_copy2 (w : World) (ty : TypeId) (dp sp : Option Addr) (dLen dCap sLen sCap g off : Nat) (cur : List Value) (hg : w.heap[g]? = some (.cells cur.toArray 144 (0, 0)))
    (cs : List Value) (hn : cs.length = Nat.min sLen dLen * 2)
    (hpos : 0 < cs.length → dp = some ⟨g, off, none⟩ ∧ ∃ ad, sp = some ad ∧ ∀ j v, cs[j]? = some v → w.cell? (ad.add j) = some v)
    (hfit : off + cs.length ≤ cur.length) (h1 : ∀ v ∈ cs, v.oneCell' = true) :
    ∃ w', (Builtin.copy_ #[80, 80] ty #[.slice dp dLen dCap, .slice sp sLen sCap]).run Tryz.prog w = .ok (goInt (Nat.min sLen dLen)) w' ∧ w'.heap[g]? = some (.cells (splice cur off cs).toArray 144 (0, 0)) ∧ w.grownBy w' (some g) := by
  obtain ⟨i, hi, hz0, hz1, hz2⟩ := info_parts info29
  by_cases h0 : cs.length = 0
  · obtain rfl : cs = [] := List.eq_nil_of_length_eq_zero h0
    have hm : Nat.min sLen dLen = 0 := by simp at hn; omega
    refine ⟨w, ?_, by simpa [splice] using hg, grown_refl _ _⟩
    cases dp <;> cases sp <;> simp [Builtin.copy_, run_underlying Tryz.underlying80, Builtin.lenOf, Builtin.firstCells, sizeOf, typeInfo, hi, hm, loadCells, loadCellsFrom, storeCells]
  · obtain ⟨rfl, ad, rfl, hsrc⟩ := hpos (by omega)
    have hl := run_loadCells_list (P := Tryz.prog) w ad cs hsrc
    have hst := run_storeCells_at Tryz.prog g off 144 cs 0 cur.toArray w hg (by simpa using hfit) h1
    refine ⟨_, ?_, setRow_heap w g _ (splice cur off cs).toArray 144 _ hg, grown_setRow _ _ _⟩
    rw [show (splice cur off cs).toArray = (cur.take off ++ cs ++ cur.drop (off + cs.length)).toArray by simp [splice]]
    simp only [Nat.add_zero] at hst
    simp [Builtin.copy_, run_underlying Tryz.underlying80, Builtin.lenOf, Builtin.firstCells, sizeOf, typeInfo, hi, hz1, ← hn, hl, hst]

end Go.Proofs.YtnflgkobedbemaaGreatDoor
