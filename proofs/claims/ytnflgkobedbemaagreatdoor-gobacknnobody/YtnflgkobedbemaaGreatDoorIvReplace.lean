import Derived.Test.YtnflgkobedbemaaGreatDoorRows
import Derived.WalkKit
import Derived.WalkSpells
import Derived.WalkLawsBesides
import Derived.BigQuiet
import Derived.Deep.QuietTactic
import Derived.Deep.LoopGhost
import Derived.Deep.Draws
import Derived.RegionTactic
import Derived.Shelf.Abstract
import Derived.Deep.RegionWith
import Derived.Laws.CopyOwn
import Derived.Lib.AppendZerosOnto
import Derived.Lib.Overlaps
import Derived.Deep.RegionLaw
namespace Go.Proofs.YtnflgkobedbemaaGreatDoor
open Go.RowKit
set_option maxRecDepth 100000

set_option maxHeartbeats 400000 in
theorem empty_any (lo hi : Int) (w : World) :
    Calls Tryz.prog 156 #[.agg #[.int .u64 lo, .int .u64 hi]] w fun e w' => e = .returned (.bool (decide (hi ≤ lo))) ∧ w' = w.alloc (.cells #[.int .u64 lo, .int .u64 hi] 144) := by
  go_enter Tryz.func156, Tryz.ntmps156
  go_wp2
  go_ret
  exact ⟨rfl, rfl⟩

set_option maxHeartbeats 400000 in
theorem firstFromP_any (p bs bx g cap n : Nat) (x hi : Int) (i : Nat) (W : World) (hin : i < n)
    (hs : W.cell? ⟨bs, 0, none⟩ = some (.pointer (some ⟨p, 0, none⟩))) (hp : W.cell? ⟨p, 0, none⟩ = some (.slice (some ⟨g, 0, none⟩) n cap)) (hx : W.cell? ⟨bx, 0, none⟩ = some (.int .u64 x)) (hc : W.cell? ⟨g, i * 2 + 1, none⟩ = some (.int .u64 hi)) :
    Calls Tryz.prog 164 #[.int .i64 i, .pointer (some ⟨bs, 0, none⟩), .pointer (some ⟨bx, 0, none⟩)] W fun e w' => e = .returned (.bool (decide (x < hi))) ∧ ∃ q, w' = W.drewN q := by
  have hiz : (i : Int) < (n : Int) := by omega
  go_enter Tryz.func164, Tryz.ntmps164
  go_wp2
  go_quiet (fail)
  go_wp2
  go_ret
  exact ⟨rfl, nq, rfl⟩

end Go.Proofs.YtnflgkobedbemaaGreatDoor

namespace Go.Proofs.YtnflgkobedbemaaGreatDoor
open Go.RowKit
set_option maxRecDepth 100000

/-- A stretch: from its first number on, ahead of its second. -/
abbrev Rg := Int × Int
/-- The cells of a list of stretches. -/
def flat (L : List Rg) : List Value := L.flatMap fun r => [.int .u64 r.1, .int .u64 r.2]
theorem length_flat (L : List Rg) : (flat L).length = L.length * 2 := by
  unfold flat
  induction L with
  | nil => rfl
  | cons a l ih => simp only [List.flatMap_cons, List.length_append, List.length_cons, List.length_nil, ih]; omega
theorem flat_append (A B : List Rg) : flat (A ++ B) = flat A ++ flat B := by simp [flat]
theorem flat_cons (r : Rg) (B : List Rg) : flat (r :: B) = .int .u64 r.1 :: .int .u64 r.2 :: flat B := by simp [flat]
theorem flat_take (L : List Rg) : ∀ i, flat (L.take i) = (flat L).take (i * 2) := by
  induction L with
  | nil => intro i; simp [flat]
  | cons a l ih =>
    intro i
    cases i with
    | zero => simp [flat]
    | succ i =>
      rw [List.take_succ_cons, flat_cons, flat_cons, ih, show (i + 1) * 2 = i * 2 + 1 + 1 by omega, List.take_succ_cons, List.take_succ_cons]
theorem flat_drop (L : List Rg) : ∀ i, flat (L.drop i) = (flat L).drop (i * 2) := by
  induction L with
  | nil => intro i; simp [flat]
  | cons a l ih =>
    intro i
    cases i with
    | zero => simp [flat]
    | succ i =>
      rw [List.drop_succ_cons, flat_cons, ih, show (i + 1) * 2 = i * 2 + 1 + 1 by omega, List.drop_succ_cons, List.drop_succ_cons]
theorem flat_get (L : List Rg) : ∀ i (h : i < L.length), (flat L)[i * 2]? = some (.int .u64 (L[i]).1) ∧ (flat L)[i * 2 + 1]? = some (.int .u64 (L[i]).2) := by
  induction L with
  | nil => intro i h; simp at h
  | cons a l ih =>
    intro i h
    rw [flat_cons]
    cases i with
    | zero => simp
    | succ i =>
      have := ih i (by simpa using h)
      rw [show (i + 1) * 2 = i * 2 + 1 + 1 by omega]
      simpa using this
theorem flat_one (L : List Rg) : ∀ v ∈ flat L, v.oneCell' = true := by
  intro v hv
  simp only [flat, List.mem_flatMap, List.mem_cons, List.not_mem_nil, or_false] at hv
  obtain ⟨r, _, rfl | rfl⟩ := hv <;> rfl

/-- How many at the front are so. -/
def front (q : Rg → Bool) (L : List Rg) : Nat := (L.takeWhile q).length
theorem front_le (q : Rg → Bool) (L : List Rg) : front q L ≤ L.length := by
  unfold front; exact (List.takeWhile_sublist q).length_le
theorem front_eq (q : Rg → Bool) (L : List Rg) : ∀ k, k ≤ L.length → (∀ t (h : t < L.length), t < k → q L[t] = true) → (∀ (h : k < L.length), q L[k] = false) → front q L = k := by
  unfold front
  induction L with
  | nil => intro k hk _ _; simp at hk; simp [hk]
  | cons a l ih =>
    intro k hk h1 h2
    cases k with
    | zero => have := h2 (by simp); simp at this; simp [this]
    | succ k =>
      have ha : q a = true := h1 0 (by simp) (by omega)
      rw [List.takeWhile_cons, if_pos ha, List.length_cons, ih k (by simpa using hk) (fun t h ht => h1 (t + 1) (by simpa using h) (by omega)) (fun h => h2 (by simpa using h))]
theorem front_spec (q : Rg → Bool) (L : List Rg) : (∀ t (h : t < L.length), t < front q L → q L[t] = true) ∧ (∀ (h : front q L < L.length), q L[front q L] = false) := by
  unfold front
  induction L with
  | nil => simp
  | cons a l ih =>
    cases ha : q a with
    | true =>
      have e : (a :: l).takeWhile q = a :: l.takeWhile q := by simp [ha]
      rw [e]
      refine ⟨fun t h ht => ?_, fun h => ?_⟩
      · cases t with
        | zero => simpa using ha
        | succ t => simpa using ih.1 t (by simpa using h) (by simpa using ht)
      · simpa using ih.2 (by simpa using h)
    | false =>
      have e : (a :: l).takeWhile q = [] := by simp [ha]
      rw [e]
      exact ⟨fun t h ht => by simp at ht, fun h => by simpa using ha⟩

/-- A set's stretches, as they must be: none empty, rising, apart. -/
def Fit (L : List Rg) : Prop := (∀ r ∈ L, 0 ≤ r.1 ∧ r.1 < r.2 ∧ r.2 ≤ 18446744073709551615) ∧ L.Pairwise (fun a b => a.2 < b.1)
theorem Fit.at {L : List Rg} (h : Fit L) (i : Nat) (hi : i < L.length) : 0 ≤ (L[i]).1 ∧ (L[i]).1 < (L[i]).2 ∧ (L[i]).2 ≤ 18446744073709551615 := h.1 _ (List.getElem_mem hi)
theorem Fit.lt {L : List Rg} (h : Fit L) (i j : Nat) (hij : i < j) (hj : j < L.length) : (L[i]).2 < (L[j]).1 := (List.pairwise_iff_getElem.1 h.2) i j (by omega) hj hij
theorem Fit.mono_hi {L : List Rg} (h : Fit L) (i j : Nat) (hij : i ≤ j) (hj : j < L.length) : (L[i]).2 ≤ (L[j]).2 := by
  by_cases e : i = j
  · subst e; omega
  · have := h.lt i j (by omega) hj; have := h.at j hj; omega
theorem Fit.mono_lo {L : List Rg} (h : Fit L) (i j : Nat) (hij : i ≤ j) (hj : j < L.length) : (L[i]).1 ≤ (L[j]).1 := by
  by_cases e : i = j
  · subst e; omega
  · have := h.lt i j (by omega) hj; have := h.at i (by omega); omega

/-- The i-th stretch (where there is one). -/
def nth (L : List Rg) (i : Nat) : Rg := L[i]?.getD (0, 0)
theorem nth_eq {L : List Rg} {i : Nat} (h : i < L.length) : nth L i = L[i] := by simp [nth, h]
theorem front_nth (q : Rg → Bool) (L : List Rg) (k : Nat) (hk : k ≤ L.length) (h1 : ∀ t, t < k → q (nth L t) = true) (h2 : ∀ t, k ≤ t → t < L.length → q (nth L t) = false) : front q L = k :=
  front_eq q L k hk (fun t h ht => by rw [← nth_eq h]; exact h1 t ht) (fun h => by rw [← nth_eq h]; exact h2 k (Nat.le_refl _) h)

/-- What reading functions take: where the list's head lies, and its cells. -/
structure View (w : World) (p : Nat) (a : Option Addr) (cap : Nat) (L : List Rg) : Prop where
  head : w.cell? ⟨p, 0, none⟩ = some (.slice a L.length cap)
  row : ∀ i (h : i < L.length), ∃ g, a = some ⟨g, 0, none⟩ ∧ w.cell? ⟨g, i * 2, none⟩ = some (.int .u64 (L[i]).1) ∧ w.cell? ⟨g, i * 2 + 1, none⟩ = some (.int .u64 (L[i]).2)
  le : L.length ≤ cap
  cp : cap ≤ maxLen
  few : L.length < 1152921504606846976
  shape : (a = none ∧ cap = 0) ∨ ∃ g, a = some ⟨g, 0, none⟩

theorem cell_kept {w w' : World} (hb : Below w.heap.size w w') {ad : Addr} {v : Value} (h : w.cell? ad = some v) : w'.cell? ad = some v :=
  (hb.cell (World.block_lt_of_cell? w ad h)).trans h

theorem View.kept {w w' : World} {p : Nat} {a : Option Addr} {cap : Nat} {L : List Rg} (V : View w p a cap L) (hb : Below w.heap.size w w') : View w' p a cap L :=
  ⟨cell_kept hb V.head, fun i h => by obtain ⟨g, h1, h2, h3⟩ := V.row i h; exact ⟨g, h1, cell_kept hb h2, cell_kept hb h3⟩, V.le, V.cp, V.few, V.shape⟩
theorem View.at {w : World} {p g : Nat} {cap : Nat} {L : List Rg} (V : View w p (some ⟨g, 0, none⟩) cap L) (i : Nat) (h : i < L.length) : w.cell? ⟨g, i * 2, none⟩ = some (.int .u64 (L[i]).1) ∧ w.cell? ⟨g, i * 2 + 1, none⟩ = some (.int .u64 (L[i]).2) := by
  obtain ⟨g', e, h1, h2⟩ := V.row i h
  simp at e
  subst e
  exact ⟨h1, h2⟩
theorem below_drewN {B : Nat} {a w : World} (h : Below B a w) (q : Nat) : Below B a (w.drewN q) := ⟨h.os, h.tape, h.output, h.size, h.block⟩

end Go.Proofs.YtnflgkobedbemaaGreatDoor

namespace Go.Proofs.YtnflgkobedbemaaGreatDoor
open Go.RowKit
set_option maxRecDepth 100000

set_option maxHeartbeats 1000000 in
theorem search_any (g : Nat) (c0 c1 : Value) (n : Nat) (p : Nat → Bool) (w : World) (eg : ∀ args w, (callFunc g args).run Tryz.prog w = .ok (.enter g args) w) (hsz : n < 4611686018427387904)
    (hf : ∀ (m i : Nat), i < n → Calls Tryz.prog g #[.int .i64 i, c0, c1] (w.drewN m) fun e w' => e = .returned (.bool (p i)) ∧ ∃ q, w' = (w.drewN m).drewN q)
    (hmono : ∀ a b, a ≤ b → b < n → p a = true → p b = true) :
    Calls Tryz.prog 163 #[.int .i64 n, .func (.func g) #[] #[c0, c1]] w fun e w' => ∃ k : Nat, e = .returned (.int .i64 k) ∧ k ≤ n ∧ (∀ t, t < k → p t = false) ∧ (∀ t, k ≤ t → t < n → p t = true) ∧ ∃ q, w' = w.drewN q := by
  have HF : Aside _ := hf
  have M : Aside _ := hmono
  clear hf hmono
  go_enter Tryz.func163, Tryz.ntmps163
  go_wp2
  go_loopg [5, 6] n (fun kx s5 s6 wr => ∃ (lo hi q : Nat), s5 = .int .i64 lo ∧ s6 = .int .i64 hi ∧ lo ≤ hi ∧ hi ≤ n ∧ hi - lo ≤ kx ∧ wr = w.drewN q ∧
    Aside ((∀ t, t < lo → p t = false) ∧ (∀ t, hi ≤ t → t < n → p t = true)))
  case atStart => exact ⟨0, n, 0, rfl, rfl, Nat.zero_le _, Nat.le_refl _, by omega, rfl, (⟨fun t ht => absurd ht (Nat.not_lt_zero _), fun t h1 h2 => by omega⟩ : (∀ t, t < 0 → p t = false) ∧ (∀ t, n ≤ t → t < n → p t = true))⟩
  case round =>
    obtain ⟨lo, hi, q, rfl, rfl, hlh, hin, hg, rfl, I⟩ := hrel
    by_cases hlt : lo < hi
    · have hc := HF.out q ((lo + hi) / 2) (by omega)
      rw [show (((lo + hi) / 2 : Nat) : Int) = ((lo : Int) + (hi : Int)) / 2 by omega] at hc
      cases hp : p ((lo + hi) / 2) <;> rw [hp] at hc
      · have HP : Aside (p ((lo + hi) / 2) = false) := hp
        clear hp
        go_wp2_with (go_at_fn g; refine hc.mono ?_; rintro e w' ⟨rfl, nq, rfl⟩)
        go_roundg (hi - ((lo + hi) / 2 + 1))
        case measure => omega
        case rel =>
          have I2 : Aside ((∀ t, t < (lo + hi) / 2 + 1 → p t = false) ∧ (∀ t, hi ≤ t → t < n → p t = true)) := ⟨fun t ht => (by
            cases h : p t with
            | false => rfl
            | true => have := M.out t ((lo + hi) / 2) (by omega) (by omega) h; rw [HP.out] at this; cases this), I.out.2⟩
          exact ⟨(lo + hi) / 2 + 1, hi, q + nq, by rw [show ((lo : Int) + (hi : Int)) / 2 + 1 = (((lo + hi) / 2 + 1 : Nat) : Int) by omega], rfl, by omega, hin, Nat.le_refl _, rfl, I2⟩
      · have HP : Aside (p ((lo + hi) / 2) = true) := hp
        clear hp
        go_wp2_with (go_at_fn g; refine hc.mono ?_; rintro e w' ⟨rfl, nq, rfl⟩)
        go_roundg ((lo + hi) / 2 - lo)
        case measure => omega
        case rel =>
          have I2 : Aside ((∀ t, t < lo → p t = false) ∧ (∀ t, (lo + hi) / 2 ≤ t → t < n → p t = true)) := ⟨I.out.1, fun t ht htn => M.out ((lo + hi) / 2) t ht htn HP.out⟩
          exact ⟨lo, (lo + hi) / 2, q + nq, rfl, by rw [show ((lo : Int) + (hi : Int)) / 2 = (((lo + hi) / 2 : Nat) : Int) by omega], by omega, by omega, Nat.le_refl _, rfl, I2⟩
    · obtain rfl : hi = lo := by omega
      go_wp2
      go_ret
      exact ⟨hi, rfl, hin, I.out.1, I.out.2, q, rfl⟩

end Go.Proofs.YtnflgkobedbemaaGreatDoor

namespace Go.Proofs.YtnflgkobedbemaaGreatDoor
open Go.RowKit
set_option maxRecDepth 100000

theorem cell_drewN {w : World} {m : Nat} {ad : Addr} {v : Value} (h : w.cell? ad = some v) : (w.drewN m).cell? ad = some v := h

set_option maxHeartbeats 400000 in
theorem overlappedP_any (p bs br g cap n : Nat) (lo rl rh : Int) (i : Nat) (W : World) (hin : i < n)
    (hs : W.cell? ⟨bs, 0, none⟩ = some (.pointer (some ⟨p, 0, none⟩))) (hp : W.cell? ⟨p, 0, none⟩ = some (.slice (some ⟨g, 0, none⟩) n cap)) (_hx : W.cell? ⟨br, 0, none⟩ = some (.int .u64 rl)) (hy : W.cell? ⟨br, 1, none⟩ = some (.int .u64 rh)) (hc : W.cell? ⟨g, i * 2, none⟩ = some (.int .u64 lo)) :
    Calls Tryz.prog 192 #[.int .i64 i, .pointer (some ⟨bs, 0, none⟩), .pointer (some ⟨br, 0, none⟩)] W fun e w' => e = .returned (.bool (decide (rh ≤ lo))) ∧ ∃ q, w' = W.drewN q := by
  have hiz : (i : Int) < (n : Int) := by omega
  go_enter Tryz.func192, Tryz.ntmps192
  go_wp2
  go_quiet (fail)
  go_wp2
  go_ret
  exact ⟨rfl, nq, rfl⟩

set_option maxHeartbeats 400000 in
theorem touchedP1_any (p bs br g cap n : Nat) (hi rl rh : Int) (i : Nat) (W : World) (hin : i < n)
    (hs : W.cell? ⟨bs, 0, none⟩ = some (.pointer (some ⟨p, 0, none⟩))) (hp : W.cell? ⟨p, 0, none⟩ = some (.slice (some ⟨g, 0, none⟩) n cap)) (hx : W.cell? ⟨br, 0, none⟩ = some (.int .u64 rl)) (_hy : W.cell? ⟨br, 1, none⟩ = some (.int .u64 rh)) (hc : W.cell? ⟨g, i * 2 + 1, none⟩ = some (.int .u64 hi)) :
    Calls Tryz.prog 182 #[.int .i64 i, .pointer (some ⟨bs, 0, none⟩), .pointer (some ⟨br, 0, none⟩)] W fun e w' => e = .returned (.bool (decide (rl ≤ hi))) ∧ ∃ q, w' = W.drewN q := by
  have hiz : (i : Int) < (n : Int) := by omega
  go_enter Tryz.func182, Tryz.ntmps182
  go_wp2
  go_quiet (fail)
  go_wp2
  go_ret
  exact ⟨rfl, nq, rfl⟩

set_option maxHeartbeats 400000 in
theorem touchedP2_any (p bs br g cap n : Nat) (lo rl rh : Int) (i : Nat) (W : World) (hin : i < n)
    (hs : W.cell? ⟨bs, 0, none⟩ = some (.pointer (some ⟨p, 0, none⟩))) (hp : W.cell? ⟨p, 0, none⟩ = some (.slice (some ⟨g, 0, none⟩) n cap)) (_hx : W.cell? ⟨br, 0, none⟩ = some (.int .u64 rl)) (hy : W.cell? ⟨br, 1, none⟩ = some (.int .u64 rh)) (hc : W.cell? ⟨g, i * 2, none⟩ = some (.int .u64 lo)) :
    Calls Tryz.prog 183 #[.int .i64 i, .pointer (some ⟨bs, 0, none⟩), .pointer (some ⟨br, 0, none⟩)] W fun e w' => e = .returned (.bool (decide (rh < lo))) ∧ ∃ q, w' = W.drewN q := by
  have hiz : (i : Int) < (n : Int) := by omega
  go_enter Tryz.func183, Tryz.ntmps183
  go_wp2
  go_quiet (fail)
  go_wp2
  go_ret
  exact ⟨rfl, nq, rfl⟩

/-- Which stretches are at the front: those that end at x or ahead of it. -/
def endBy (x : Int) (r : Rg) : Bool := decide (r.2 ≤ x)
def endAhead (x : Int) (r : Rg) : Bool := decide (r.2 < x)
def beginAhead (x : Int) (r : Rg) : Bool := decide (r.1 < x)
def beginBy (x : Int) (r : Rg) : Bool := decide (r.1 ≤ x)

theorem eg52 : ∀ args w, (callFunc 164 args).run Tryz.prog w = .ok (.enter 164 args) w := enters_of Tryz.func164 (by kernel_rfl) rfl
theorem eg51 : ∀ args w, (callFunc 192 args).run Tryz.prog w = .ok (.enter 192 args) w := enters_of Tryz.func192 (by kernel_rfl) rfl
theorem eg44 : ∀ args w, (callFunc 182 args).run Tryz.prog w = .ok (.enter 182 args) w := enters_of Tryz.func182 (by kernel_rfl) rfl
theorem eg45 : ∀ args w, (callFunc 183 args).run Tryz.prog w = .ok (.enter 183 args) w := enters_of Tryz.func183 (by kernel_rfl) rfl

/-- The search of firstFrom, over whatever world in which the two boxes lie. -/
theorem search52 {w : World} {p bs bx : Nat} {a : Option Addr} {cap : Nat} {L : List Rg} (x : Int) (V : View w p a cap L) (F : Fit L)
    (hs : w.cell? ⟨bs, 0, none⟩ = some (.pointer (some ⟨p, 0, none⟩))) (hx : w.cell? ⟨bx, 0, none⟩ = some (.int .u64 x)) :
    Calls Tryz.prog 163 #[.int .i64 L.length, .func (.func 164) #[] #[.pointer (some ⟨bs, 0, none⟩), .pointer (some ⟨bx, 0, none⟩)]] w fun e w' => e = .returned (.int .i64 (front (endBy x) L)) ∧ ∃ q, w' = w.drewN q := by
  refine (search_any 164 _ _ L.length (fun i => decide (x < (nth L i).2)) w eg52 (by have := V.few; omega) (fun m i hi => ?_) (fun i j hij hj h => ?_)).mono ?_
  · obtain ⟨g, rfl, h1, h2⟩ := V.row i hi
    rw [nth_eq hi]
    exact firstFromP_any p bs bx g cap L.length x _ i _ hi (cell_drewN hs) (cell_drewN V.head) (cell_drewN hx) (cell_drewN h2)
  · have := F.mono_hi i j hij hj
    simp only [decide_eq_true_eq, nth_eq hj, nth_eq (show i < L.length by omega)] at h ⊢
    omega
  · rintro e w' ⟨k, rfl, hk, h1, h2, q, rfl⟩
    refine ⟨?_, q, rfl⟩
    rw [front_nth (endBy x) L k hk (fun t ht => by have := h1 t ht; simp only [decide_eq_false_iff_not, endBy, decide_eq_true_eq] at this ⊢; omega) (fun t ht hn => by have := h2 t ht hn; simp only [decide_eq_true_eq, endBy, decide_eq_false_iff_not] at this ⊢; omega)]
theorem search51 {w : World} {p bs br : Nat} {a : Option Addr} {cap : Nat} {L : List Rg} (rl rh : Int) (V : View w p a cap L) (F : Fit L)
    (hs : w.cell? ⟨bs, 0, none⟩ = some (.pointer (some ⟨p, 0, none⟩))) (hx : w.cell? ⟨br, 0, none⟩ = some (.int .u64 rl)) (hy : w.cell? ⟨br, 1, none⟩ = some (.int .u64 rh)) :
    Calls Tryz.prog 163 #[.int .i64 L.length, .func (.func 192) #[] #[.pointer (some ⟨bs, 0, none⟩), .pointer (some ⟨br, 0, none⟩)]] w fun e w' => e = .returned (.int .i64 (front (beginAhead rh) L)) ∧ ∃ q, w' = w.drewN q := by
  refine (search_any 192 _ _ L.length (fun i => decide (rh ≤ (nth L i).1)) w eg51 (by have := V.few; omega) (fun m i hi => ?_) (fun i j hij hj h => ?_)).mono ?_
  · obtain ⟨g, rfl, h1, h2⟩ := V.row i hi
    rw [nth_eq hi]
    exact overlappedP_any p bs br g cap L.length _ rl rh i _ hi (cell_drewN hs) (cell_drewN V.head) (cell_drewN hx) (cell_drewN hy) (cell_drewN h1)
  · have := F.mono_lo i j hij hj
    simp only [decide_eq_true_eq, nth_eq hj, nth_eq (show i < L.length by omega)] at h ⊢
    omega
  · rintro e w' ⟨k, rfl, hk, h1, h2, q, rfl⟩
    refine ⟨?_, q, rfl⟩
    rw [front_nth (beginAhead rh) L k hk (fun t ht => by have := h1 t ht; simp only [decide_eq_false_iff_not, beginAhead, decide_eq_true_eq] at this ⊢; omega) (fun t ht hn => by have := h2 t ht hn; simp only [decide_eq_true_eq, beginAhead, decide_eq_false_iff_not] at this ⊢; omega)]
theorem search44 {w : World} {p bs br : Nat} {a : Option Addr} {cap : Nat} {L : List Rg} (rl rh : Int) (V : View w p a cap L) (F : Fit L)
    (hs : w.cell? ⟨bs, 0, none⟩ = some (.pointer (some ⟨p, 0, none⟩))) (hx : w.cell? ⟨br, 0, none⟩ = some (.int .u64 rl)) (hy : w.cell? ⟨br, 1, none⟩ = some (.int .u64 rh)) :
    Calls Tryz.prog 163 #[.int .i64 L.length, .func (.func 182) #[] #[.pointer (some ⟨bs, 0, none⟩), .pointer (some ⟨br, 0, none⟩)]] w fun e w' => e = .returned (.int .i64 (front (endAhead rl) L)) ∧ ∃ q, w' = w.drewN q := by
  refine (search_any 182 _ _ L.length (fun i => decide (rl ≤ (nth L i).2)) w eg44 (by have := V.few; omega) (fun m i hi => ?_) (fun i j hij hj h => ?_)).mono ?_
  · obtain ⟨g, rfl, h1, h2⟩ := V.row i hi
    rw [nth_eq hi]
    exact touchedP1_any p bs br g cap L.length _ rl rh i _ hi (cell_drewN hs) (cell_drewN V.head) (cell_drewN hx) (cell_drewN hy) (cell_drewN h2)
  · have := F.mono_hi i j hij hj
    simp only [decide_eq_true_eq, nth_eq hj, nth_eq (show i < L.length by omega)] at h ⊢
    omega
  · rintro e w' ⟨k, rfl, hk, h1, h2, q, rfl⟩
    refine ⟨?_, q, rfl⟩
    rw [front_nth (endAhead rl) L k hk (fun t ht => by have := h1 t ht; simp only [decide_eq_false_iff_not, endAhead, decide_eq_true_eq] at this ⊢; omega) (fun t ht hn => by have := h2 t ht hn; simp only [decide_eq_true_eq, endAhead, decide_eq_false_iff_not] at this ⊢; omega)]
theorem search45 {w : World} {p bs br : Nat} {a : Option Addr} {cap : Nat} {L : List Rg} (rl rh : Int) (V : View w p a cap L) (F : Fit L)
    (hs : w.cell? ⟨bs, 0, none⟩ = some (.pointer (some ⟨p, 0, none⟩))) (hx : w.cell? ⟨br, 0, none⟩ = some (.int .u64 rl)) (hy : w.cell? ⟨br, 1, none⟩ = some (.int .u64 rh)) :
    Calls Tryz.prog 163 #[.int .i64 L.length, .func (.func 183) #[] #[.pointer (some ⟨bs, 0, none⟩), .pointer (some ⟨br, 0, none⟩)]] w fun e w' => e = .returned (.int .i64 (front (beginBy rh) L)) ∧ ∃ q, w' = w.drewN q := by
  refine (search_any 183 _ _ L.length (fun i => decide (rh < (nth L i).1)) w eg45 (by have := V.few; omega) (fun m i hi => ?_) (fun i j hij hj h => ?_)).mono ?_
  · obtain ⟨g, rfl, h1, h2⟩ := V.row i hi
    rw [nth_eq hi]
    exact touchedP2_any p bs br g cap L.length _ rl rh i _ hi (cell_drewN hs) (cell_drewN V.head) (cell_drewN hx) (cell_drewN hy) (cell_drewN h1)
  · have := F.mono_lo i j hij hj
    simp only [decide_eq_true_eq, nth_eq hj, nth_eq (show i < L.length by omega)] at h ⊢
    omega
  · rintro e w' ⟨k, rfl, hk, h1, h2, q, rfl⟩
    refine ⟨?_, q, rfl⟩
    rw [front_nth (beginBy rh) L k hk (fun t ht => by have := h1 t ht; simp only [decide_eq_false_iff_not, beginBy, decide_eq_true_eq] at this ⊢; omega) (fun t ht hn => by have := h2 t ht hn; simp only [decide_eq_true_eq, beginBy, decide_eq_false_iff_not] at this ⊢; omega)]

/-- Two boxes laid behind w. -/
theorem boxes {w : World} (o1 o2 : Obj) : Below w.heap.size w ((w.alloc o1).alloc o2) := ((Below.refl _ _).alloc (Nat.le_refl _) o1).alloc (by simp) o2
theorem box0 {w : World} (cs : Array Value) (t : TypeId) (o2 : Obj) (j : Nat) : ((w.alloc (.cells cs t)).alloc o2).cell? ⟨w.heap.size, j, none⟩ = cs[j]? := by
  rw [cell_of_row _ _ _ cs t (0, 0) (heap_alloc2_old w _ _)]
theorem box1 {w : World} (o1 : Obj) (cs : Array Value) (t : TypeId) (j : Nat) : ((w.alloc o1).alloc (.cells cs t)).cell? ⟨w.heap.size + 1, j, none⟩ = cs[j]? := by
  rw [cell_of_row _ _ _ cs t (0, 0) (heap_alloc2_new w _ _)]

set_option maxHeartbeats 400000 in
theorem firstFrom_any {w : World} {p : Nat} {a : Option Addr} {cap : Nat} {L : List Rg} (x : Int) (V : View w p a cap L) (F : Fit L) :
    Calls Tryz.prog 138 #[.pointer (some ⟨p, 0, none⟩), .int .u64 x] w fun e w' => e = .returned (.int .i64 (front (endBy x) L)) ∧ Below w.heap.size w w' := by
  have hb : Below w.heap.size w ((w.alloc (.cells #[.pointer (some ⟨p, 0, none⟩)] 160)).alloc (.cells #[.int .u64 x] 23)) := boxes _ _
  have hS := search52 (bs := w.heap.size) (bx := w.heap.size + 1) x (V.kept hb) F (box0 _ _ _ 0) (box1 _ _ _ 0)
  have hd := cell_kept hb V.head
  have HB : Hid _ := hb
  clear hb V F
  generalize front (endBy x) L = k at *
  go_enter Tryz.func138, Tryz.ntmps138
  go_wp2_with fail
  refine hS.mono ?_
  rintro e w' ⟨rfl, q, rfl⟩
  go_wp2
  go_ret
  exact ⟨rfl, below_drewN HB.out q⟩

def ovlA (L : List Rg) (r : Rg) : Nat := front (endBy r.1) L
def ovlB (L : List Rg) (r : Rg) : Nat := if r.2 ≤ r.1 then front (endBy r.1) L else front (beginAhead r.2) L
def tchA (L : List Rg) (r : Rg) : Nat := front (endAhead r.1) L
def tchB (L : List Rg) (r : Rg) : Nat := front (beginBy r.2) L

set_option maxHeartbeats 400000 in
theorem overlapped_any {w : World} {p : Nat} {a : Option Addr} {cap : Nat} {L : List Rg} (r : Rg) (V : View w p a cap L) (F : Fit L) :
    Calls Tryz.prog 168 #[.pointer (some ⟨p, 0, none⟩), .agg #[.int .u64 r.1, .int .u64 r.2]] w fun e w' => e = .returned (.tuple #[.int .i64 (ovlA L r), .int .i64 (ovlB L r)]) ∧ Below w.heap.size w w' := by
  obtain ⟨rl, rh⟩ := r
  have hb : Below w.heap.size w ((w.alloc (.cells #[.pointer (some ⟨p, 0, none⟩)] 160)).alloc (.cells #[.int .u64 rl, .int .u64 rh] 144)) := boxes _ _
  have hz : ((w.alloc (.cells #[.pointer (some ⟨p, 0, none⟩)] 160)).alloc (.cells #[.int .u64 rl, .int .u64 rh] 144)).heap.size = w.heap.size + 1 + 1 := by simp
  have hc0 := box0 (w := w) #[.pointer (some ⟨p, 0, none⟩)] 160 (.cells #[.int .u64 rl, .int .u64 rh] 144) 0
  have hc1 := box1 (w := w) (.cells #[.pointer (some ⟨p, 0, none⟩)] 160) #[.int .u64 rl, .int .u64 rh] 144 0
  have hc2 := box1 (w := w) (.cells #[.pointer (some ⟨p, 0, none⟩)] 160) #[.int .u64 rl, .int .u64 rh] 144 1
  have hF := firstFrom_any rl (V.kept hb) F
  have HB : Hid _ := hb
  have HV : Hid _ := V.kept hb
  have HC0 : Hid _ := hc0
  have HC1 : Hid _ := hc1
  have HC2 : Hid _ := hc2
  have HF : Hid _ := F
  clear hb V F hc0 hc1 hc2
  have hA : ovlA L (rl, rh) = front (endBy rl) L := rfl
  have hB : ovlB L (rl, rh) = if rh ≤ rl then front (endBy rl) L else front (beginAhead rh) L := rfl
  by_cases hE : rh ≤ rl
  all_goals
    first | rw [if_pos hE] at hB | rw [if_neg hE] at hB
    rw [hA, hB]
    clear hA hB
    go_enter Tryz.func168, Tryz.ntmps168
    go_wp2_with fail
    refine hF.mono ?_
    rintro e w1 ⟨rfl, hb1⟩
    have d0 := cell_kept hb1 HC0.out
    have d1 := cell_kept hb1 HC1.out
    have d2 := cell_kept hb1 HC2.out
    have hz1 := hb1.size
    rw [hz] at hz1
    have HV1 : Hid _ := HV.out.kept hb1
    have HB1 : Hid _ := HB.out.trans (hb1.mono HB.out.size)
    clear hF hz HV HC0 HC1 HC2 HB hb1
    have hb2 : Below w1.heap.size w1 (w1.alloc (.cells #[.int .u64 rl, .int .u64 rh] 144)) := (Below.refl _ _).alloc (Nat.le_refl _) _
    have e0 := cell_kept hb2 d0
    have e1 := cell_kept hb2 d1
    have e2 := cell_kept hb2 d2
    have hh := cell_kept hb2 HV1.out.head
    have hS := search51 (bs := w.heap.size) (br := w.heap.size + 1) rl rh (HV1.out.kept hb2) HF.out e0 e1 e2
    have HB2 : Hid _ := HB1.out.trans (hb2.mono HB1.out.size)
    clear hb2 HB1 HF HV1
  · go_wp2_with fail
    refine (empty_any rl rh _).mono ?_
    rintro e w2 ⟨rfl, rfl⟩
    go_wp2
    go_ret2
    exact ⟨rfl, HB2.out⟩
  · go_wp2_with fail
    refine (empty_any rl rh _).mono ?_
    rintro e w2 ⟨rfl, rfl⟩
    go_wp2_with fail
    refine hS.mono ?_
    rintro e w3 ⟨rfl, q, rfl⟩
    go_wp2
    go_ret2
    exact ⟨rfl, below_drewN HB2.out q⟩

set_option maxHeartbeats 400000 in
theorem touched_any {w : World} {p : Nat} {a : Option Addr} {cap : Nat} {L : List Rg} (r : Rg) (V : View w p a cap L) (F : Fit L) :
    Calls Tryz.prog 158 #[.pointer (some ⟨p, 0, none⟩), .agg #[.int .u64 r.1, .int .u64 r.2]] w fun e w' => e = .returned (.tuple #[.int .i64 (tchA L r), .int .i64 (tchB L r)]) ∧ Below w.heap.size w w' := by
  obtain ⟨rl, rh⟩ := r
  have hb : Below w.heap.size w ((w.alloc (.cells #[.pointer (some ⟨p, 0, none⟩)] 160)).alloc (.cells #[.int .u64 rl, .int .u64 rh] 144)) := boxes _ _
  have hc0 := box0 (w := w) #[.pointer (some ⟨p, 0, none⟩)] 160 (.cells #[.int .u64 rl, .int .u64 rh] 144) 0
  have hc1 := box1 (w := w) (.cells #[.pointer (some ⟨p, 0, none⟩)] 160) #[.int .u64 rl, .int .u64 rh] 144 0
  have hc2 := box1 (w := w) (.cells #[.pointer (some ⟨p, 0, none⟩)] 160) #[.int .u64 rl, .int .u64 rh] 144 1
  have hd := cell_kept hb V.head
  have hS := search44 (bs := w.heap.size) (br := w.heap.size + 1) rl rh (V.kept hb) F hc0 hc1 hc2
  have hT := fun q => search45 (w := World.drewN _ q) (bs := w.heap.size) (br := w.heap.size + 1) rl rh ((V.kept hb).kept (below_drewN (Below.refl _ _) q)) F hc0 hc1 hc2
  have HB : Hid _ := hb
  clear hb V F hc0 hc1 hc2
  show Calls Tryz.prog 158 _ _ fun e w' => e = .returned (.tuple #[.int .i64 (front (endAhead rl) L), .int .i64 (front (beginBy rh) L)]) ∧ _
  generalize front (endAhead rl) L = kA at *
  generalize front (beginBy rh) L = kB at *
  have HT : Hid _ := hT
  clear hT
  go_enter Tryz.func158, Tryz.ntmps158
  go_wp2_with fail
  refine hS.mono ?_
  rintro e w' ⟨rfl, q, rfl⟩
  clear hS
  go_wp2_with fail
  refine (HT.out q).mono ?_
  rintro e w' ⟨rfl, q', rfl⟩
  go_wp2
  go_ret2
  exact ⟨rfl, below_drewN HB.out (q + q')⟩

end Go.Proofs.YtnflgkobedbemaaGreatDoor

namespace Go.Proofs.YtnflgkobedbemaaGreatDoor
open Go.RowKit
set_option maxRecDepth 100000

/-- The first number from x on that is not there. -/
def gapOf (L : List Rg) (x : Int) : Int :=
  if front (endBy x) L < L.length ∧ (nth L (front (endBy x) L)).1 ≤ x then (nth L (front (endBy x) L)).2 else x

set_option maxHeartbeats 400000 in
theorem gap_any {w : World} {p : Nat} {a : Option Addr} {cap : Nat} {L : List Rg} (x : Int) (V : View w p a cap L) (F : Fit L) :
    Calls Tryz.prog 114 #[.pointer (some ⟨p, 0, none⟩), .int .u64 x] w fun e w' => e = .returned (.int .u64 (gapOf L x)) ∧ Below w.heap.size w w' := by
  have hF := firstFrom_any x V F
  have HV : Hid _ := V
  clear V F
  by_cases h1 : front (endBy x) L < L.length
  · by_cases h2 : (nth L (front (endBy x) L)).1 ≤ x
    · have e : gapOf L x = (nth L (front (endBy x) L)).2 := by unfold gapOf; exact if_pos ⟨h1, h2⟩
      rw [e]
      obtain ⟨g, rfl, c1, c2⟩ := HV.out.row _ h1
      rw [← nth_eq h1] at c1 c2
      generalize (nth L (front (endBy x) L)) = r at *
      obtain ⟨rl, rh⟩ := r
      simp only at c1 c2 h2
      generalize front (endBy x) L = k at *
      have h1' : (k : Int) < (L.length : Int) := by omega
      have HC1 : Hid _ := c1
      have HC2 : Hid _ := c2
      clear c1 c2 e
      go_enter Tryz.func114, Tryz.ntmps114
      go_wp2_with fail
      refine hF.mono ?_
      rintro e w1 ⟨rfl, hb1⟩
      have d := cell_kept hb1 HV.out.head
      have d1 := cell_kept hb1 HC1.out
      have d2 := cell_kept hb1 HC2.out
      have HB : Hid _ := hb1
      clear hb1 hF HV HC1 HC2
      go_wp2
      go_ret
      exact ⟨rfl, HB.out⟩
    · have e : gapOf L x = x := by unfold gapOf; exact if_neg (fun h => h2 h.2)
      rw [e]
      obtain ⟨g, rfl, c1, c2⟩ := HV.out.row _ h1
      rw [← nth_eq h1] at c1 c2
      generalize (nth L (front (endBy x) L)) = r at *
      obtain ⟨rl, rh⟩ := r
      simp only at c1 c2 h2
      generalize front (endBy x) L = k at *
      have h1' : (k : Int) < (L.length : Int) := by omega
      have HC1 : Hid _ := c1
      have HC2 : Hid _ := c2
      clear c1 c2 e
      go_enter Tryz.func114, Tryz.ntmps114
      go_wp2_with fail
      refine hF.mono ?_
      rintro e w1 ⟨rfl, hb1⟩
      have d := cell_kept hb1 HV.out.head
      have d1 := cell_kept hb1 HC1.out
      have d2 := cell_kept hb1 HC2.out
      have HB : Hid _ := hb1
      clear hb1 hF HV HC1 HC2
      go_wp2
      go_ret
      exact ⟨rfl, HB.out⟩
  · have e : gapOf L x = x := by unfold gapOf; exact if_neg (fun h => h1 h.1)
    rw [e]
    generalize front (endBy x) L = k at *
    have h1' : ¬ (k : Int) < (L.length : Int) := by omega
    clear e
    go_enter Tryz.func114, Tryz.ntmps114
    go_wp2_with fail
    refine hF.mono ?_
    rintro e w1 ⟨rfl, hb1⟩
    have d := cell_kept hb1 HV.out.head
    have HB : Hid _ := hb1
    clear hb1 hF HV
    go_wp2
    go_ret
    exact ⟨rfl, HB.out⟩

end Go.Proofs.YtnflgkobedbemaaGreatDoor

namespace Go.Proofs.YtnflgkobedbemaaGreatDoor
open Go.RowKit
set_option maxRecDepth 100000

/-- How many numbers the stretches have. -/
def total : List Rg → Int
  | [] => 0
  | r :: l => (r.2 - r.1) + total l
theorem total_append (A B : List Rg) : total (A ++ B) = total A + total B := by
  induction A with
  | nil => simp [total]
  | cons a l ih => simp only [List.cons_append, total, ih]; omega
theorem total_snoc (L : List Rg) (k : Nat) (h : k < L.length) : total (L.take (k + 1)) = total (L.take k) + (L[k].2 - L[k].1) := by
  rw [List.take_succ_eq_append_getElem h, total_append]
  simp [total]
/-- Stretches that rise and lie apart have no more numbers than the last one's end. -/
theorem total_le (L : List Rg) (F : Fit L) : ∀ k, k ≤ L.length → 0 ≤ total (L.take k) ∧ (∀ (_ : 0 < k) (hk : k - 1 < L.length), total (L.take k) ≤ L[k - 1].2) := by
  intro k
  induction k with
  | zero => intro _; exact ⟨by simp [total], fun h => by omega⟩
  | succ k ih =>
    intro hk
    have hk' : k < L.length := by omega
    have h := ih (by omega)
    rw [total_snoc L k hk']
    have hf := F.at k hk'
    refine ⟨by omega, fun _ _ => ?_⟩
    simp only [Nat.add_sub_cancel]
    cases k with
    | zero => simp only [List.take_zero, total]; omega
    | succ j =>
      have h2 := h.2 (by omega) (by omega)
      simp only [Nat.add_sub_cancel] at h2
      have h3 := F.lt j (j + 1) (by omega) hk'
      omega
theorem total_bd (L : List Rg) (F : Fit L) (k : Nat) (hk : k ≤ L.length) : 0 ≤ total (L.take k) ∧ total (L.take k) ≤ 18446744073709551615 := by
  have h := total_le L F k hk
  refine ⟨h.1, ?_⟩
  cases k with
  | zero => simp [total]
  | succ k => have h2 := h.2 (by omega) (by omega); simp only [Nat.add_sub_cancel] at h2; have := F.at k (by omega); omega

theorem ovl_le {L : List Rg} (F : Fit L) (r : Rg) : ovlA L r ≤ ovlB L r ∧ ovlB L r ≤ L.length := by
  unfold ovlA ovlB
  by_cases h : r.2 ≤ r.1
  · rw [if_pos h]; exact ⟨Nat.le_refl _, front_le _ _⟩
  · rw [if_neg h]
    refine ⟨Nat.le_of_not_lt fun hlt => ?_, front_le _ _⟩
    have hl := front_le (endBy r.1) L
    have h1 := (front_spec (endBy r.1) L).1 _ (by omega) hlt
    have h2 := (front_spec (beginAhead r.2) L).2 (by omega)
    have hf := F.at (front (beginAhead r.2) L) (by omega)
    simp only [endBy, beginAhead, decide_eq_true_eq, decide_eq_false_iff_not] at h1 h2
    omega
/-- The part of a stretch that lies in r. -/
def clip (r t : Rg) : Rg := (max r.1 t.1, min r.2 t.2)
/-- The stretches of the set that r meets, cut to r. -/
def clipL (L : List Rg) (r : Rg) : List Rg := ((L.take (ovlB L r)).drop (ovlA L r)).map (clip r)
theorem ovl_meets {L : List Rg} (F : Fit L) (r : Rg) (i : Nat) (hA : ovlA L r ≤ i) (hB : i < ovlB L r) (hi : i < L.length) : r.1 < L[i].2 ∧ L[i].1 < r.2 ∧ r.1 < r.2 := by
  unfold ovlA at hA
  unfold ovlB at hB
  by_cases h : r.2 ≤ r.1
  · rw [if_pos h] at hB; omega
  · rw [if_neg h] at hB
    have h1 := (front_spec (endBy r.1) L).2 (by omega)
    have h2 := (front_spec (beginAhead r.2) L).1 i hi hB
    have h3 := F.mono_hi _ i hA hi
    simp only [endBy, beginAhead, decide_eq_true_eq, decide_eq_false_iff_not] at h1 h2
    omega
theorem clipL_length {L : List Rg} (F : Fit L) (r : Rg) : (clipL L r).length = ovlB L r - ovlA L r := by
  have := ovl_le F r
  simp only [clipL, List.length_map, List.length_drop, List.length_take]; omega
theorem clipL_get {L : List Rg} (F : Fit L) (r : Rg) (k : Nat) (hk : k < (clipL L r).length) : ∃ (h : ovlA L r + k < L.length), (clipL L r)[k] = clip r L[ovlA L r + k] := by
  have h1 := clipL_length F r
  have h2 := ovl_le F r
  refine ⟨by omega, ?_⟩
  simp [clipL]
theorem clipL_fit {L : List Rg} (F : Fit L) (r : Rg) (h0 : 0 ≤ r.1) (h1 : r.2 ≤ 18446744073709551615) : Fit (clipL L r) := by
  have hl := clipL_length F r
  have ho := ovl_le F r
  constructor
  · intro t ht
    obtain ⟨k, hk, rfl⟩ := List.getElem_of_mem ht
    obtain ⟨h, e⟩ := clipL_get F r k hk
    rw [e]
    have hm := ovl_meets F r (ovlA L r + k) (by omega) (by omega) h
    have hf := F.at _ h
    unfold clip
    simp only
    omega
  · rw [List.pairwise_iff_getElem]
    intro i j hi hj hij
    obtain ⟨h, e⟩ := clipL_get F r i hi
    obtain ⟨h', e'⟩ := clipL_get F r j hj
    rw [e, e']
    have := F.lt (ovlA L r + i) (ovlA L r + j) (by omega) h'
    unfold clip
    simp only
    omega

theorem go_min (a b : Int) : (if b < a then b else a) = min a b := by split <;> omega
theorem go_max (a b : Int) : (if a < b then b else a) = max a b := by split <;> omega

set_option maxHeartbeats 400000 in
theorem common_any {w : World} {p : Nat} {a : Option Addr} {cap : Nat} {L : List Rg} (r : Rg) (h0 : 0 ≤ r.1) (h1 : r.2 ≤ 18446744073709551615) (V : View w p a cap L) (F : Fit L) :
    Calls Tryz.prog 157 #[.pointer (some ⟨p, 0, none⟩), .agg #[.int .u64 r.1, .int .u64 r.2]] w fun e w' => e = .returned (.int .u64 (total (clipL L r))) ∧ Below w.heap.size w w' := by
  have hCF := clipL_fit F r h0 h1
  have hCL := clipL_length F r
  have hle := ovl_le F r
  have hCG := clipL_get F r
  obtain ⟨rl, rh⟩ := r
  have hb : Below w.heap.size w (w.alloc (.cells #[.int .u64 rl, .int .u64 rh] 144)) := (Below.refl _ _).alloc (Nat.le_refl _) _
  have hc0 : (w.alloc (.cells #[.int .u64 rl, .int .u64 rh] 144)).cell? ⟨w.heap.size, 0, none⟩ = some (.int .u64 rl) := by rw [cell_of_row _ _ _ _ _ _ (heap_alloc_new w _)]; rfl
  have hc1 : (w.alloc (.cells #[.int .u64 rl, .int .u64 rh] 144)).cell? ⟨w.heap.size, 1, none⟩ = some (.int .u64 rh) := by rw [cell_of_row _ _ _ _ _ _ (heap_alloc_new w _)]; rfl
  have hz : (w.alloc (.cells #[.int .u64 rl, .int .u64 rh] 144)).heap.size = w.heap.size + 1 := by simp
  have hO := overlapped_any (rl, rh) (V.kept hb) F
  simp only at hO
  have HV : Hid _ := V.kept hb
  have HB : Hid _ := hb
  have HC0 : Hid _ := hc0
  have HC1 : Hid _ := hc1
  have HF : Hid (Fit (clipL L (rl, rh))) := hCF
  have HG : Hid _ := hCG
  clear V F hb hc0 hc1 hCF hCG
  generalize ovlA L (rl, rh) = A at *
  generalize ovlB L (rl, rh) = B at *
  generalize clipL L (rl, rh) = C at *
  have HCL : Hid _ := hCL
  clear hCL
  go_enter Tryz.func157, Tryz.ntmps157
  go_wp2_with fail
  refine hO.mono ?_
  rintro e w1 ⟨rfl, hb1⟩
  have HV1 : Hid _ := HV.out.kept hb1
  have d0 := cell_kept hb1 HC0.out
  have d1 := cell_kept hb1 HC1.out
  have hz1 := hb1.size
  rw [hz] at hz1
  have HB1 : Hid _ := HB.out.trans (hb1.mono HB.out.size)
  clear hO hb1 hz HV HB HC0 HC1
  have hd := HV1.out.head
  have hAl : (A : Int) ≤ (L.length : Int) := by omega
  have hAB : (A : Int) ≤ (B : Int) := by omega
  have hfew := HV1.out.few
  have hBc : (B : Int) ≤ (cap : Int) := by have := HV1.out.le; omega
  by_cases hlt : A < B
  · obtain ⟨g, rfl, _, _⟩ := HV1.out.row A (by omega)
    have hAc : ¬ cap = A := by omega
    go_wp2
    go_loopw [5, 24] (fun n i wr => ∃ k : Nat, k ≤ B - A ∧ i = .int .i64 k ∧ n = .int .u64 (total (C.take k)) ∧ Below w1.heap.size w1 wr) (fun _ i _ => (B - A) - (intOf i).toNat)
    case atStart => exact ⟨0, Nat.zero_le _, rfl, rfl, Below.refl _ _⟩
    case round =>
      obtain ⟨k, hk, rfl, rfl, hb⟩ := hrel
      by_cases hkl : k < B - A
      · have hkC : k < C.length := by rw [HCL.out]; exact hkl
        obtain ⟨c1, c2⟩ := HV1.out.at (A + k) (by omega)
        obtain ⟨hh, hcl⟩ := HG.out k hkC
        have e1 := cell_kept hb c1
        have e2 := cell_kept hb c2
        have f0 := fun o => cell_kept ((Below.refl _ wr).alloc (Nat.le_refl _) o) (cell_kept hb d0)
        have f1 := fun o => cell_kept ((Below.refl _ wr).alloc (Nat.le_refl _) o) (cell_kept hb d1)
        have hs := total_snoc C k hkC
        have hbd := total_bd C HF.out k (by omega)
        have hbd2 := total_bd C HF.out (k + 1) hkC
        have hf := HF.out.at k hkC
        rw [hcl] at hs hf
        clear c1 c2 hcl d0 d1
        generalize L[A + k] = r at *
        obtain ⟨tl, th⟩ := r
        simp only [clip] at e1 e2 hs hf
        rw [show (A + k) * 2 = A * 2 + k * 2 by omega] at e1
        rw [show (A + k) * 2 + 1 = A * 2 + k * 2 + 1 by omega] at e2
        generalize total (C.take k) = t at *
        rw [hs] at hbd2
        have HS : Hid _ := hs
        have HB2 : Hid _ := hb
        clear hs hb
        go_wp2
        go_roundw
        case rel => exact ⟨k + 1, hkl, by go_num, by rw [HS.out, go_min, go_max], HB2.out.alloc HB2.out.size _⟩
        case measure => simp [intOf]; omega
      · have e : k = C.length := by rw [HCL.out]; omega
        subst e
        have HB2 : Hid _ := hb
        have hkk : ¬ (C.length : Int) < ((B - A : Nat) : Int) := by omega
        clear hb
        rw [List.take_length]
        go_wp2
        go_ret
        exact ⟨rfl, HB1.out.trans (HB2.out.mono HB1.out.size)⟩
  · have e : A = B := by omega
    subst e
    have hC : C = [] := List.eq_nil_of_length_eq_zero (by rw [HCL.out]; omega)
    subst hC
    rcases HV1.out.shape with ⟨rfl, rfl⟩ | ⟨g, rfl⟩
    · have hA0 : A = 0 := by omega
      subst hA0
      go_wp2
      refine wp_loop_rounds 1 ?_
      rw [rounds_succ]
      go_wp2
      go_ret
      exact ⟨rfl, HB1.out⟩
    · go_wp2
      all_goals refine wp_loop_rounds 1 ?_
      all_goals rw [rounds_succ]
      all_goals go_wp2
      all_goals go_ret
      all_goals exact ⟨rfl, HB1.out⟩

end Go.Proofs.YtnflgkobedbemaaGreatDoor

namespace Go.Proofs.YtnflgkobedbemaaGreatDoor
open Go.RowKit
set_option maxRecDepth 100000

theorem info29 : (Tryz.prog.info? 144).map (fun i => (i.zero, i.size, i.bytes)) = some (some (.agg #[.int .u64 0, .int .u64 0]), 2, 16) := by kernel_rfl

/-- n elements that are zero. -/
def zeros (n : Nat) : List Value := (Builtin.zeroCells #[.int .u64 0, .int .u64 0] n).toList
theorem length_zeros (n : Nat) : (zeros n).length = n * 2 := by simp [zeros, size_zeroCells]
theorem zeros_one (n : Nat) : ∀ v ∈ zeros n, v.oneCell' = true := by
  intro v hv
  simp only [zeros, Builtin.zeroCells, Array.toList_map, List.mem_map] at hv
  obtain ⟨i, _, rfl⟩ := hv
  have : i % 2 = 0 ∨ i % 2 = 1 := by omega
  rcases this with h | h <;> simp [h] <;> rfl

theorem grown_setRow (w : World) (g : Nat) (cs : Array Value) : w.grownBy (w.setRow g cs) (some g) :=
  ⟨rfl, rfl, rfl, by simp, fun k _ hk => setRow_other w g k cs (fun e => hk (by rw [e]))⟩
theorem grown_refl (w : World) (row : Option Nat) : w.grownBy w row := ⟨rfl, rfl, rfl, Nat.le_refl _, fun _ _ _ => rfl⟩

/-- 'copy' over stretches, the target in a row that is known whole. -/
theorem run_copy2 (w : World) (ty : TypeId) (dp sp : Option Addr) (dLen dCap sLen sCap g off : Nat) (cur : List Value) (hg : w.heap[g]? = some (.cells cur.toArray 144 (0, 0)))
    (cs : List Value) (hn : cs.length = Nat.min sLen dLen * 2)
    (hpos : 0 < cs.length → dp = some ⟨g, off, none⟩ ∧ ∃ ad, sp = some ad ∧ ∀ j v, cs[j]? = some v → w.cell? (ad.add j) = some v)
    (hfit : off + cs.length ≤ cur.length) (h1 : ∀ v ∈ cs, v.oneCell' = true) :
    ∃ w', (Builtin.copy_ #[80, 80] ty #[.slice dp dLen dCap, .slice sp sLen sCap]).run Tryz.prog w = .ok (goInt (Nat.min sLen dLen)) w' ∧ w'.heap[g]? = some (.cells (splice cur off cs).toArray 144 (0, 0)) ∧ w.grownBy w' (some g) := by
  obtain ⟨i, hi, hz0, hz1, hz2⟩ := info_parts info29
  by_cases h0 : cs.length = 0
  · obtain rfl : cs = [] := List.eq_nil_of_length_eq_zero h0
    have hm : Nat.min sLen dLen = 0 := by simp at hn; omega
    refine ⟨w, ?_, by simpa [splice] using hg, grown_refl _ _⟩
    cases dp <;> cases sp <;> simp [Builtin.copy_, run_underlying Tryz.underlying80, Builtin.lenOf, Builtin.firstCells, sizeOf, typeInfo, hi, hm, loadCells, loadCellsFrom, storeCells]
  · obtain ⟨rfl, ad, rfl, hsrc⟩ := hpos (by omega)
    have hl := run_loadCells_list (P := Tryz.prog) w ad cs hsrc
    have hst := run_storeCells_at Tryz.prog g off 144 cs 0 cur.toArray w hg (by simpa using hfit) h1
    refine ⟨_, ?_, setRow_heap w g _ (splice cur off cs).toArray 144 _ hg, grown_setRow _ _ _⟩
    rw [show (splice cur off cs).toArray = (cur.take off ++ cs ++ cur.drop (off + cs.length)).toArray by simp [splice]]
    simp only [Nat.add_zero] at hst
    simp [Builtin.copy_, run_underlying Tryz.underlying80, Builtin.lenOf, Builtin.firstCells, sizeOf, typeInfo, hi, hz1, ← hn, hl, hst]

/-- 'clear' over stretches of a row that is known whole. -/
theorem run_clear2 (w : World) (ap : Option Addr) (n c g off : Nat) (cur : List Value) (hg : w.heap[g]? = some (.cells cur.toArray 144 (0, 0))) (hpos : 0 < n → ap = some ⟨g, off, none⟩) (hfit : off + n * 2 ≤ cur.length) :
    ∃ w', (∀ ty, (Builtin.clear_ #[80] ty #[.slice ap n c]).run Tryz.prog w = .ok (.tuple #[]) w') ∧ w'.heap[g]? = some (.cells (splice cur off (zeros n)).toArray 144 (0, 0)) ∧ w.grownBy w' (some g) := by
  obtain ⟨i, hi, hz0, hz1, hz2⟩ := info_parts info29
  cases n with
  | zero =>
    refine ⟨w, fun ty => ?_, by simpa [splice, zeros, Builtin.zeroCells] using hg, grown_refl _ _⟩
    cases ap <;> simp [Builtin.clear_, run_underlying Tryz.underlying80]
  | succ n =>
    obtain rfl := hpos (by omega)
    have hst := run_storeCells_at Tryz.prog g off 144 (zeros (n + 1)) 0 cur.toArray w hg (by simpa [length_zeros] using hfit) (zeros_one _)
    refine ⟨_, fun ty => ?_, setRow_heap w g _ (splice cur off (zeros (n + 1))).toArray 144 _ hg, grown_setRow _ _ _⟩
    rw [show (splice cur off (zeros (n + 1))).toArray = (cur.take off ++ zeros (n + 1) ++ cur.drop (off + (zeros (n + 1)).length)).toArray by simp [splice]]
    simp only [Nat.add_zero, zeros] at hst
    simp [Builtin.clear_, run_underlying Tryz.underlying80, zeroValue, typeInfo, hi, hz0, Value.cells, hst, zeros]

/-- 'append' where there is room. -/
theorem run_room2 (w : World) (ty : TypeId) (g sLen sCap : Nat) (cur : List Value) (hg : w.heap[g]? = some (.cells cur.toArray 144 (0, 0)))
    (a : Addr) (m c : Nat) (news : List Value) (hl : news.length = m * 2) (hnews : ∀ j u, news[j]? = some u → w.cell? (a.add j) = some u) (h1 : ∀ u ∈ news, u.oneCell' = true) (hroom : sLen + m ≤ sCap) (hfit : sLen * 2 + news.length ≤ cur.length) :
    ∃ w', (Builtin.append_ #[80, 80] ty #[.slice (some ⟨g, 0, none⟩) sLen sCap, .slice (some a) m c]).run Tryz.prog w = .ok (.slice (some ⟨g, 0, none⟩) (sLen + m) sCap) w' ∧ w'.heap[g]? = some (.cells (splice cur (sLen * 2) news).toArray 144 (0, 0)) ∧ w.grownBy w' (some g) := by
  obtain ⟨i, hi, hz0, hz1, hz2⟩ := info_parts info29
  have hr := run_append_room (P := Tryz.prog) w 80 ty 144 i Tryz.underlying80 hi g sLen sCap cur.toArray hg a m c news (by rw [hz1]; exact hl) hnews h1 hroom (by rw [hz1]; simpa using hfit)
  rw [hz1] at hr
  refine ⟨_, ?_, setRow_heap w g _ (splice cur (sLen * 2) news).toArray 144 _ hg, grown_setRow _ _ _⟩
  rw [hr]
  simp [splice]

/-- 'append' where there is none: a new row. -/
theorem run_grow2 (w : World) (ty : TypeId) (b : Addr) (sLen sCap : Nat) (olds : List Value) (hlo : olds.length = sLen * 2) (holds : ∀ j v, olds[j]? = some v → w.cell? (b.add j) = some v)
    (a : Addr) (m c : Nat) (news : List Value) (hl : news.length = m * 2) (hnews : ∀ j u, news[j]? = some u → w.cell? (a.add j) = some u) (hg : sCap < sLen + m) (hbytes : (sLen + m) * 16 ≤ 140737488355328) :
    ∃ w' cap' tail, (Builtin.append_ #[80, 80] ty #[.slice (some b) sLen sCap, .slice (some a) m c]).run Tryz.prog w = .ok (.slice (some ⟨w.heap.size, 0, none⟩) (sLen + m) cap') w' ∧ w'.heap[w.heap.size]? = some (.cells (olds ++ news ++ tail).toArray 144 (0, 0)) ∧ sLen + m ≤ cap' ∧ cap' ≤ maxLen ∧ (olds ++ news ++ tail).length = cap' * 2 ∧ w.grownBy w' none := by
  obtain ⟨i, hi, hz0, hz1, hz2⟩ := info_parts info29
  have hr := run_append_grow (P := Tryz.prog) w 80 ty 144 i _ Tryz.underlying80 hi hz0 b sLen sCap olds (by rw [hz1]; exact hlo) holds a m c news (by rw [hz1]; exact hl) hnews hg (by omega) (by rw [hz2]; exact growslice_fits hg hbytes)
  refine ⟨_, _, zeros (grownCap w (sLen + m) sCap 144 - (sLen + m)), hr, ?_, grownCap_ge w _ _ _, grownCap_le_maxLen w _ _ _ (by unfold maxLen; omega), ?_, ⟨rfl, rfl, rfl, by simp, fun k hk _ => Below.heap_alloc w.drew _ k hk⟩⟩
  · rw [show w.heap.size = w.drew.heap.size from rfl, heap_alloc_new]
    simp [zeros, Value.cells]
  · have := grownCap_ge w (sLen + m) sCap 144
    simp only [List.length_append, hlo, hl, length_zeros]
    omega
theorem run_nil2 (w : World) (ty : TypeId) (a : Addr) (m c : Nat) (news : List Value) (h0 : 0 < m) (hl : news.length = m * 2) (hnews : ∀ j u, news[j]? = some u → w.cell? (a.add j) = some u) (hbytes : m * 16 ≤ 140737488355328) :
    ∃ w' cap' tail, (Builtin.append_ #[80, 80] ty #[.slice none 0 0, .slice (some a) m c]).run Tryz.prog w = .ok (.slice (some ⟨w.heap.size, 0, none⟩) m cap') w' ∧ w'.heap[w.heap.size]? = some (.cells (news ++ tail).toArray 144 (0, 0)) ∧ m ≤ cap' ∧ cap' ≤ maxLen ∧ (news ++ tail).length = cap' * 2 ∧ w.grownBy w' none := by
  obtain ⟨i, hi, hz0, hz1, hz2⟩ := info_parts info29
  have hr := run_append_nil (P := Tryz.prog) w 80 ty 144 i _ Tryz.underlying80 hi hz0 a m c news (by rw [hz1]; exact hl) hnews h0 (by omega) (by rw [hz2]; omega)
  refine ⟨_, _, zeros (grownCap w m 0 144 - m), hr, ?_, grownCap_ge w _ _ _, grownCap_le_maxLen w _ _ _ (by unfold maxLen; omega), ?_, ⟨rfl, rfl, rfl, by simp, fun k hk _ => Below.heap_alloc w.drew _ k hk⟩⟩
  · rw [show w.heap.size = w.drew.heap.size from rfl, heap_alloc_new]
    simp [zeros, Value.cells]
  · have := grownCap_ge w m 0 144
    simp only [List.length_append, hl, length_zeros]
    omega
/-- 'append(s[:i], make(S, k)...)' where there is no room. -/
theorem run_zeros2 (w : World) (ty : TypeId) (b : Addr) (sLen sCap : Nat) (olds : List Value) (hlo : olds.length = sLen * 2) (holds : ∀ j v, olds[j]? = some v → w.cell? (b.add j) = some v)
    (k : Nat) (h0 : 0 < k) (hg : sCap < sLen + k) (hbytes : (sLen + k) * 16 ≤ 140737488355328) :
    ∃ w' cap' tail, (Builtin.append_ #[80, 3] ty #[.slice (some b) sLen sCap, .int .i64 k]).run Tryz.prog w = .ok (.slice (some ⟨w.heap.size, 0, none⟩) (sLen + k) cap') w' ∧ w'.heap[w.heap.size]? = some (.cells (olds ++ zeros k ++ tail).toArray 144 (0, 0)) ∧ sLen + k ≤ cap' ∧ cap' ≤ maxLen ∧ (olds ++ zeros k ++ tail).length = cap' * 2 ∧ w.grownBy w' none := by
  obtain ⟨i, hi, hz0, hz1, hz2⟩ := info_parts info29
  have hf := run_firstCells_some (P := Tryz.prog) w.drew i.size sLen b sLen sCap olds (by rw [hz1]; exact hlo) (by simpa using holds)
  have hr := Lib.run_append_grow_zeros (P := Tryz.prog) w 80 3 ty 144 i _ .i64 .i64 Tryz.underlying80 Tryz.underlying3 hi hz0 (some b) sLen sCap olds hf k h0 (by rw [hz1]; omega) hg (by omega) (by rw [hz2]; omega) (by rw [hz2]; exact growslice_fits hg hbytes)
  refine ⟨_, _, zeros (grownCap w (sLen + k) sCap 144 - (sLen + k)), hr, ?_, grownCap_ge w _ _ _, grownCap_le_maxLen w _ _ _ (by unfold maxLen; omega), ?_, ⟨rfl, rfl, rfl, by simp, fun k hk _ => Below.heap_alloc w.drew _ k hk⟩⟩
  · rw [show w.heap.size = w.drew.heap.size from rfl, heap_alloc_new]
    simp [zeros, Value.cells]
  · have := grownCap_ge w (sLen + k) sCap 144
    simp only [List.length_append, hlo, length_zeros]
    omega

end Go.Proofs.YtnflgkobedbemaaGreatDoor

namespace Go.Proofs.YtnflgkobedbemaaGreatDoor
open Go.RowKit
set_option maxRecDepth 100000

/-- 'copy' as one step of a region that draws, its run known by an equation. -/
theorem step_copy_eq {ops : Array Oper} {o : Oper} {a : Act} {w : World} {K : Act → World → Prop} {Q : Exit → Act → World → Prop} {E : Prop} (hgd : o.guard = none) (d s : Operand)
    (ho : o.op = .call { callee := .builtin .copy, args := #[d, s], argTypes := #[80, 80] }) (hty : o.type = 3) (v u : Value) (hd : a.eval d = v) (hs : a.eval s = u) {v' : Value} {w' : World}
    (hr : (Builtin.copy_ #[80, 80] 3 #[v, u]).run Tryz.prog w = .ok v' w') (h : K (a.put o.dst v') w') :
    if Region.wanted o (yielded ops a.tmps) = true then Oper.wp Tryz.prog o a w K Q else E := by
  have hw : Region.wanted o (yielded ops a.tmps) = true := by simp [Region.wanted, hgd]
  rw [if_pos hw]
  rw [← hty] at hr
  unfold Oper.wp
  simp [execOp, ho, resolve, invoke, builtin, hd, hs, hr, Result.andThen]
  exact h

theorem wpList_room2 {w : World} {ops : Array Oper} {rest : List Oper} {o : Oper} {a : Act} {Q : Exit → Act → World → Prop} (hgd : o.guard = none) (d s : Operand)
    (ho : o.op = .call { callee := .builtin .append, args := #[d, s], argTypes := #[80, 80] }) (g sLen sCap : Nat) (hd : a.eval d = .slice (some ⟨g, 0, none⟩) sLen sCap)
    (cur : List Value) (hg : w.heap[g]? = some (.cells cur.toArray 144 (0, 0))) (ad : Addr) (m c : Nat) (hs : a.eval s = .slice (some ad) m c) (news : List Value) (hl : news.length = m * 2)
    (hnews : ∀ j u, news[j]? = some u → w.cell? (ad.add j) = some u) (h1 : ∀ u ∈ news, u.oneCell' = true) (hroom : sLen + m ≤ sCap) (hfit : sLen * 2 + news.length ≤ cur.length)
    (h : ∀ w', Hid (w'.heap[g]? = some (.cells (splice cur (sLen * 2) news).toArray 144 (0, 0))) → Hid (w.grownBy w' (some g)) → wpList Tryz.prog ops Q rest (a.put o.dst (.slice (some ⟨g, 0, none⟩) (sLen + m) sCap)) w') :
    wpList Tryz.prog ops Q (o :: rest) a w := by
  obtain ⟨w', hrun, h2, h3⟩ := run_room2 w o.type g sLen sCap cur hg ad m c news hl hnews h1 hroom hfit
  refine wpList_plain hgd fun K hK => ?_
  unfold Oper.wp
  simp [execOp, ho, resolve, invoke, builtin, hd, hs, hrun, Result.andThen]
  exact hK _ _ (h w' h2 h3)

theorem wpList_grow2 {w : World} {ops : Array Oper} {rest : List Oper} {o : Oper} {a : Act} {Q : Exit → Act → World → Prop} (hgd : o.guard = none) (d s : Operand)
    (ho : o.op = .call { callee := .builtin .append, args := #[d, s], argTypes := #[80, 80] }) (b : Addr) (sLen sCap : Nat) (hd : a.eval d = .slice (some b) sLen sCap)
    (olds : List Value) (hlo : olds.length = sLen * 2) (holds : ∀ j v, olds[j]? = some v → w.cell? (b.add j) = some v)
    (ad : Addr) (m c : Nat) (hs : a.eval s = .slice (some ad) m c) (news : List Value) (hl : news.length = m * 2)
    (hnews : ∀ j u, news[j]? = some u → w.cell? (ad.add j) = some u) (hg : sCap < sLen + m) (hbytes : (sLen + m) * 16 ≤ 140737488355328)
    (h : ∀ w' cap' tail, Hid (w'.heap[w.heap.size]? = some (.cells (olds ++ news ++ tail).toArray 144 (0, 0))) → sLen + m ≤ cap' → cap' ≤ maxLen → Hid ((olds ++ news ++ tail).length = cap' * 2) → Hid (w.grownBy w' none) →
      wpList Tryz.prog ops Q rest (a.put o.dst (.slice (some ⟨w.heap.size, 0, none⟩) (sLen + m) cap')) w') :
    wpList Tryz.prog ops Q (o :: rest) a w := by
  obtain ⟨w', cap', tail, hrun, h2, h3, h4, h5, h6⟩ := run_grow2 w o.type b sLen sCap olds hlo holds ad m c news hl hnews hg hbytes
  refine wpList_plain hgd fun K hK => ?_
  unfold Oper.wp
  simp [execOp, ho, resolve, invoke, builtin, hd, hs, hrun, Result.andThen]
  exact hK _ _ (h w' cap' tail h2 h3 h4 h5 h6)

theorem wpList_nil2 {w : World} {ops : Array Oper} {rest : List Oper} {o : Oper} {a : Act} {Q : Exit → Act → World → Prop} (hgd : o.guard = none) (d s : Operand)
    (ho : o.op = .call { callee := .builtin .append, args := #[d, s], argTypes := #[80, 80] }) (hd : a.eval d = .slice none 0 0)
    (ad : Addr) (m c : Nat) (hs : a.eval s = .slice (some ad) m c) (news : List Value) (h0 : 0 < m) (hl : news.length = m * 2)
    (hnews : ∀ j u, news[j]? = some u → w.cell? (ad.add j) = some u) (hbytes : m * 16 ≤ 140737488355328)
    (h : ∀ w' cap' tail, Hid (w'.heap[w.heap.size]? = some (.cells (news ++ tail).toArray 144 (0, 0))) → m ≤ cap' → cap' ≤ maxLen → Hid ((news ++ tail).length = cap' * 2) → Hid (w.grownBy w' none) →
      wpList Tryz.prog ops Q rest (a.put o.dst (.slice (some ⟨w.heap.size, 0, none⟩) m cap')) w') :
    wpList Tryz.prog ops Q (o :: rest) a w := by
  obtain ⟨w', cap', tail, hrun, h2, h3, h4, h5, h6⟩ := run_nil2 w o.type ad m c news h0 hl hnews hbytes
  refine wpList_plain hgd fun K hK => ?_
  unfold Oper.wp
  simp [execOp, ho, resolve, invoke, builtin, hd, hs, hrun, Result.andThen]
  exact hK _ _ (h w' cap' tail h2 h3 h4 h5 h6)

theorem wpList_zeros2 {w : World} {ops : Array Oper} {rest : List Oper} {o : Oper} {a : Act} {Q : Exit → Act → World → Prop} (hgd : o.guard = none) (d s : Operand)
    (ho : o.op = .call { callee := .builtin .append, args := #[d, s], argTypes := #[80, 3] }) (b : Addr) (sLen sCap : Nat) (hd : a.eval d = .slice (some b) sLen sCap)
    (olds : List Value) (hlo : olds.length = sLen * 2) (holds : ∀ j v, olds[j]? = some v → w.cell? (b.add j) = some v)
    (z : Int) (k : Nat) (hs : a.eval s = .int .i64 z) (hz : z = (k : Int)) (h0 : 0 < k) (hg : sCap < sLen + k) (hbytes : (sLen + k) * 16 ≤ 140737488355328) (N : Nat) (hN : sLen + k = N)
    (h : ∀ w' cap' tail, Hid (w'.heap[w.heap.size]? = some (.cells (olds ++ zeros k ++ tail).toArray 144 (0, 0))) → N ≤ cap' → cap' ≤ maxLen → Hid ((olds ++ zeros k ++ tail).length = cap' * 2) → Hid (w.grownBy w' none) →
      wpList Tryz.prog ops Q rest (a.put o.dst (.slice (some ⟨w.heap.size, 0, none⟩) N cap')) w') :
    wpList Tryz.prog ops Q (o :: rest) a w := by
  subst hz
  subst hN
  obtain ⟨w', cap', tail, hrun, h2, h3, h4, h5, h6⟩ := run_zeros2 w o.type b sLen sCap olds hlo holds k h0 hg hbytes
  refine wpList_plain hgd fun K hK => ?_
  unfold Oper.wp
  simp [execOp, ho, resolve, invoke, builtin, hd, hs, hrun, Result.andThen]
  exact hK _ _ (h w' cap' tail h2 h3 h4 h5 h6)

/-- A splice, place by place. -/
theorem get_splice {α : Type} (L : List α) (off : Nat) (cs : List α) (h : off + cs.length ≤ L.length) (j : Nat) : (splice L off cs)[j]? = if j < off then L[j]? else if j < off + cs.length then cs[j - off]? else L[j]? := by
  unfold splice
  rw [List.getElem?_append, List.length_take, show min off L.length = off by omega]
  by_cases h1 : j < off
  · rw [if_pos h1, if_pos h1, List.getElem?_take, if_pos h1]
  · rw [if_neg h1, if_neg h1, List.getElem?_append]
    by_cases h2 : j < off + cs.length
    · rw [if_pos (by omega), if_pos h2]
    · rw [if_neg (by omega), if_neg h2, List.getElem?_drop]
      congr 1
      omega
theorem splice_grown {α : Type} (A Z T N D : List α) (hZ : Z.length = N.length + D.length) (a b : Nat) (ha : a = A.length) (hb : b = A.length + N.length) :
    splice (splice (A ++ Z ++ T) a N) b D = A ++ N ++ D ++ T := by
  subst ha; subst hb
  have hl : (splice (A ++ Z ++ T) A.length N).length = (A ++ Z ++ T).length := length_splice _ _ _ (by simp; omega)
  apply List.ext_getElem?
  intro j
  rw [get_splice _ _ _ (by rw [hl]; simp; omega), get_splice _ _ _ (by simp; omega)]
  by_cases h1 : j < A.length
  · rw [if_pos (by omega), if_pos h1, List.append_assoc, List.append_assoc, List.append_assoc, List.getElem?_append_left h1, List.getElem?_append_left h1]
  · by_cases h2 : j < A.length + N.length
    · rw [if_pos h2, if_neg h1, if_pos h2, List.append_assoc, List.append_assoc, List.getElem?_append_right (by omega), List.getElem?_append_left (by omega)]
    · rw [if_neg h2]
      by_cases h3 : j < A.length + N.length + D.length
      · rw [if_pos h3, List.append_assoc (A ++ N), List.getElem?_append_right (by simp; omega), List.getElem?_append_left (by simp; omega)]
        simp
      · rw [if_neg h3, if_neg h1, if_neg h2, List.getElem?_append_right (by simp; omega), List.getElem?_append_right (by simp; omega)]
        simp [hZ]
/-- In place: what is behind goes up first, then the new ones go in. -/
theorem splice_shift {α : Type} (C N D : List α) (a b n : Nat) (hb : b = a + N.length) (hn : n = b + D.length) (hC : n ≤ C.length) :
    (splice (splice C b D) a N).take n = C.take a ++ N ++ D := by
  subst hb; subst hn
  have hl : (splice C (a + N.length) D).length = C.length := length_splice _ _ _ (by omega)
  apply List.ext_getElem?
  intro j
  rw [List.getElem?_take]
  by_cases hj : j < a + N.length + D.length
  · rw [if_pos hj, get_splice _ _ _ (by rw [hl]; omega), get_splice _ _ _ (by omega)]
    by_cases h1 : j < a
    · rw [if_pos h1, if_pos (by omega), List.append_assoc, List.getElem?_append_left (by simp; omega), List.getElem?_take, if_pos h1]
    · rw [if_neg h1]
      by_cases h2 : j < a + N.length
      · rw [if_pos h2, List.append_assoc, List.getElem?_append_right (by simp; omega), List.getElem?_append_left (by simp; omega)]
        simp only [List.length_take]; congr 1; omega
      · rw [if_neg h2, if_neg h2, if_pos hj, List.getElem?_append_right (by simp; omega)]
        simp only [List.length_append, List.length_take]; congr 1; omega
  · rw [if_neg hj, List.getElem?_eq_none (by simp; omega)]
/-- In place: the new ones go in first, then what is behind comes down. -/
theorem splice_close {α : Type} (C N D : List α) (a b n : Nat) (hb : b = a + N.length) (hn : n = b + D.length) (hC : n ≤ C.length) :
    (splice (splice C a N) b D).take n = C.take a ++ N ++ D := by
  subst hb; subst hn
  have hl : (splice C a N).length = C.length := length_splice _ _ _ (by omega)
  apply List.ext_getElem?
  intro j
  rw [List.getElem?_take]
  by_cases hj : j < a + N.length + D.length
  · rw [if_pos hj, get_splice _ _ _ (by rw [hl]; omega), get_splice _ _ _ (by omega)]
    by_cases h1 : j < a
    · rw [if_pos (by omega), if_pos h1, List.append_assoc, List.getElem?_append_left (by simp; omega), List.getElem?_take, if_pos h1]
    · by_cases h2 : j < a + N.length
      · rw [if_pos h2, if_neg h1, if_pos h2, List.append_assoc, List.getElem?_append_right (by simp; omega), List.getElem?_append_left (by simp; omega)]
        simp only [List.length_take]; congr 1; omega
      · rw [if_neg h2, if_pos hj, List.getElem?_append_right (by simp; omega)]
        simp only [List.length_append, List.length_take]; congr 1; omega
  · rw [if_neg hj, List.getElem?_eq_none (by simp; omega)]

end Go.Proofs.YtnflgkobedbemaaGreatDoor

namespace Go.Proofs.YtnflgkobedbemaaGreatDoor
open Go.RowKit
set_option maxRecDepth 100000

/-- The slice v', made out of s, holds these cells; of what was there the row of s alone has turned. -/
structure Placed (w w' : World) (s v' : Value) (n : Nat) (xs : List Value) : Prop where
  own : w'.ownsRow 0 144 2 v' n xs
  grown : w.grownBy w' s.ownBlock
  block : v'.ownBlock = s.ownBlock ∨ ∃ g, v'.ownBlock = some g ∧ w.heap.size ≤ g

theorem grown_trans {a b c : World} {r : Option Nat} (h : a.grownBy b r) (k : b.grownBy c r) : a.grownBy c r :=
  ⟨k.os.trans h.os, k.tape.trans h.tape, k.output.trans h.output, Nat.le_trans h.size k.size, fun i hi hn => (k.block i (Nat.lt_of_lt_of_le hi h.size) hn).trans (h.block i hi hn)⟩
/-- A row that was made behind a: what is written there is nothing that was there. -/
theorem grown_new {a b c : World} {r : Option Nat} {g : Nat} (h : a.grownBy b r) (k : b.grownBy c (some g)) (hg : a.heap.size ≤ g) : a.grownBy c r :=
  ⟨k.os.trans h.os, k.tape.trans h.tape, k.output.trans h.output, Nat.le_trans h.size k.size, fun i hi hn => (k.block i (Nat.lt_of_lt_of_le hi h.size) (by simp; omega)).trans (h.block i hi hn)⟩
theorem grown_any {a b : World} {r : Option Nat} (h : a.grownBy b none) : a.grownBy b r := ⟨h.os, h.tape, h.output, h.size, fun i hi _ => h.block i hi (by simp)⟩
theorem grown_drew {a b : World} {r : Option Nat} (h : a.grownBy b r) : a.grownBy b.drew r := ⟨h.os, h.tape, h.output, h.size, h.block⟩

theorem own_mk {w : World} {g n cap : Nat} {row xs : List Value} (hg : w.heap[g]? = some (.cells row.toArray 144 (0, 0))) (hn : n ≤ cap) (hc : cap ≤ maxLen) (hl : row.length = cap * 2) (ht : row.take (n * 2) = xs) :
    w.ownsRow 0 144 2 (.slice (some ⟨g, 0, none⟩) n cap) n xs :=
  ⟨by rw [← ht, List.length_take, hl]; omega, .inr ⟨g, cap, row.toArray, rfl, Nat.zero_le _, hg, hn, hc, by simpa using hl, by simpa using ht⟩⟩

theorem row_cells {w : World} {g : Nat} {row : List Value} (hg : w.heap[g]? = some (.cells row.toArray 144 (0, 0))) (off : Nat) (cs : List Value) (h : cs = (row.drop off).take cs.length) : ∀ j v, cs[j]? = some v → w.cell? ((⟨g, off, none⟩ : Addr).add j) = some v := by
  intro j v hj
  rw [Addr.add_lit, cell_of_row w g _ _ _ _ hg]
  have hlt : j < cs.length := (List.getElem?_eq_some_iff.1 hj).1
  rw [h, List.getElem?_take, if_pos hlt, List.getElem?_drop] at hj
  simpa using hj

set_option maxHeartbeats 1000000 in
/-- At the end of a slice that is nil. -/
theorem insert_nil (w : World) (h m c : Nat) (src : List Value) (hh : w.heap[h]? = some (.cells src.toArray 144 (0, 0))) (hm : m * 2 ≤ src.length) (h0 : 0 < m) (hb : m * 16 ≤ 140737488355328) :
    Calls Tryz.prog 184 #[.slice none 0 0, .int .i64 0, .slice (some ⟨h, 0, none⟩) m c] w fun e w' => ∃ v', e = .returned v' ∧ Placed w w' (.slice none 0 0) v' m (src.take (m * 2)) := by
  have hn : (src.take (m * 2)).length = m * 2 := by rw [List.length_take]; omega
  have hc := row_cells hh 0 (src.take (m * 2)) (by rw [hn]; simp)
  have hm0 : ((m : Int) == 0) = false := by simp; omega
  generalize hnew : src.take (m * 2) = news at *
  have HC : Hid _ := hc
  have HN : Hid _ := hn
  clear hc hn hnew hh
  go_enter Tryz.func184, Tryz.ntmps184
  go_wp2_with (at_builtin; refine wpList_nil2 rfl _ _ rfl rfl ⟨h, 0, none⟩ m c rfl news h0 HN.out HC.out hb ?_; intro w1 cap' tail hr hc1 hc2 hl hg)
  go_ret
  refine ⟨_, rfl, own_mk hr.out hc1 hc2 hl.out ?_, grown_any hg.out, .inr ⟨_, rfl, Nat.le_refl _⟩⟩
  rw [← HN.out, List.take_left]

set_option maxHeartbeats 1000000 in
/-- At the end, where there is room. -/
theorem insert_room (w : World) (g n cap : Nat) (row : List Value) (hg : w.heap[g]? = some (.cells row.toArray 144 (0, 0))) (_hnc : n ≤ cap) (hcm : cap ≤ maxLen) (hrl : row.length = cap * 2)
    (h m c : Nat) (src : List Value) (hh : w.heap[h]? = some (.cells src.toArray 144 (0, 0))) (hm : m * 2 ≤ src.length) (h1 : ∀ v ∈ src.take (m * 2), v.oneCell' = true) (h0 : 0 < m) (hroom : n + m ≤ cap) :
    Calls Tryz.prog 184 #[.slice (some ⟨g, 0, none⟩) n cap, .int .i64 n, .slice (some ⟨h, 0, none⟩) m c] w fun e w' => ∃ v', e = .returned v' ∧ Placed w w' (.slice (some ⟨g, 0, none⟩) n cap) v' (n + m) (row.take (n * 2) ++ src.take (m * 2)) := by
  have hn : (src.take (m * 2)).length = m * 2 := by rw [List.length_take]; omega
  have hc := row_cells hh 0 (src.take (m * 2)) (by rw [hn]; simp)
  have hm0 : ((m : Int) == 0) = false := by simp; omega
  have hni : ¬ cap = n := by omega
  generalize hnew : src.take (m * 2) = news at *
  have HC : Hid _ := hc
  have HN : Hid _ := hn
  have HG : Hid _ := hg
  have H1 : Hid _ := h1
  have HL : Hid _ := hrl
  clear hc hn hnew hh hg h1 hrl
  go_enter Tryz.func184, Tryz.ntmps184
  go_wp2_with (at_builtin; refine wpList_room2 rfl _ _ rfl g n cap rfl row HG.out ⟨h, 0, none⟩ m c rfl news HN.out HC.out H1.out hroom (by rw [HN.out, HL.out]; omega) ?_; intro w1 hr hg1)
  go_ret
  refine ⟨_, rfl, own_mk hr.out hroom hcm ?_ ?_, hg1.out, .inl rfl⟩
  · rw [length_splice _ _ _ (by rw [HN.out, HL.out]; omega), HL.out]
  · have e := splice_close row news [] (n * 2) (n * 2 + news.length) ((n + m) * 2) rfl (by rw [HN.out]; simp; omega) (by rw [HL.out]; omega)
    rw [List.append_nil] at e
    rw [← e]
    congr 1
    simp [splice]

set_option maxHeartbeats 1000000 in
/-- At the end, where there is no room. -/
theorem insert_grow (w : World) (g n cap : Nat) (row : List Value) (hg : w.heap[g]? = some (.cells row.toArray 144 (0, 0))) (hnc : n ≤ cap) (_hcm : cap ≤ maxLen) (hrl : row.length = cap * 2)
    (h m c : Nat) (src : List Value) (hh : w.heap[h]? = some (.cells src.toArray 144 (0, 0))) (hm : m * 2 ≤ src.length) (h0 : 0 < m) (hroom : cap < n + m) (hb : (n + m) * 16 ≤ 140737488355328) :
    Calls Tryz.prog 184 #[.slice (some ⟨g, 0, none⟩) n cap, .int .i64 n, .slice (some ⟨h, 0, none⟩) m c] w fun e w' => ∃ v', e = .returned v' ∧ Placed w w' (.slice (some ⟨g, 0, none⟩) n cap) v' (n + m) (row.take (n * 2) ++ src.take (m * 2)) := by
  have hn : (src.take (m * 2)).length = m * 2 := by rw [List.length_take]; omega
  have hc := row_cells hh 0 (src.take (m * 2)) (by rw [hn]; simp)
  have ho : (row.take (n * 2)).length = n * 2 := by rw [List.length_take]; omega
  have hoc := row_cells hg 0 (row.take (n * 2)) (by rw [ho]; simp)
  have hm0 : ((m : Int) == 0) = false := by simp; omega
  generalize hnew : src.take (m * 2) = news at *
  generalize hold : row.take (n * 2) = olds at *
  have HC : Hid _ := hc
  have HN : Hid _ := hn
  have HO : Hid _ := ho
  have HOC : Hid _ := hoc
  clear hc hn hnew hh hg hrl hold ho hoc
  by_cases hni : cap = n
  · subst hni
    go_enter Tryz.func184, Tryz.ntmps184
    go_wp2_with (at_builtin; refine wpList_grow2 rfl _ _ rfl ⟨g, 0, none⟩ cap cap rfl olds HO.out HOC.out ⟨h, 0, none⟩ m c rfl news HN.out HC.out hroom hb ?_; intro w1 cap' tail hr hc1 hc2 hl hg1)
    go_ret
    refine ⟨_, rfl, own_mk hr.out hc1 hc2 hl.out ?_, grown_any hg1.out, .inr ⟨_, rfl, Nat.le_refl _⟩⟩
    rw [show (cap + m) * 2 = (olds ++ news).length by rw [List.length_append, HO.out, HN.out]; omega, List.take_left]
  · go_enter Tryz.func184, Tryz.ntmps184
    go_wp2_with (at_builtin; refine wpList_grow2 rfl _ _ rfl ⟨g, 0, none⟩ n cap rfl olds HO.out HOC.out ⟨h, 0, none⟩ m c rfl news HN.out HC.out hroom hb ?_; intro w1 cap' tail hr hc1 hc2 hl hg1)
    go_ret
    refine ⟨_, rfl, own_mk hr.out hc1 hc2 hl.out ?_, grown_any hg1.out, .inr ⟨_, rfl, Nat.le_refl _⟩⟩
    rw [show (n + m) * 2 = (olds ++ news).length by rw [List.length_append, HO.out, HN.out]; omega, List.take_left]

end Go.Proofs.YtnflgkobedbemaaGreatDoor

namespace Go.Proofs.YtnflgkobedbemaaGreatDoor
open Go.RowKit
set_option maxRecDepth 100000

theorem heap_grown {a b : World} {r : Option Nat} (h : a.grownBy b r) {k : Nat} {o : Obj} (hk : a.heap[k]? = some o) (hne : some k ≠ r) : b.heap[k]? = some o :=
  (h.block k (Array.getElem?_eq_some_iff.1 hk).1 hne).trans hk

set_option maxHeartbeats 1000000 in
/-- In the middle, where there is no room. -/
theorem insert_mid_grow (w : World) (g n cap i : Nat) (row : List Value) (hg : w.heap[g]? = some (.cells row.toArray 144 (0, 0))) (hi : i < n) (hnc : n ≤ cap) (_hcm : cap ≤ maxLen) (hrl : row.length = cap * 2) (h1r : ∀ v ∈ row.take (n * 2), v.oneCell' = true)
    (h m c : Nat) (src : List Value) (hh : w.heap[h]? = some (.cells src.toArray 144 (0, 0))) (hm : m * 2 ≤ src.length) (h1 : ∀ v ∈ src.take (m * 2), v.oneCell' = true) (h0 : 0 < m) (hroom : cap < n + m) (hb : (n + m) * 16 ≤ 140737488355328) :
    Calls Tryz.prog 184 #[.slice (some ⟨g, 0, none⟩) n cap, .int .i64 i, .slice (some ⟨h, 0, none⟩) m c] w fun e w' => ∃ v', e = .returned v' ∧ Placed w w' (.slice (some ⟨g, 0, none⟩) n cap) v' (n + m) (row.take (i * 2) ++ src.take (m * 2) ++ (row.take (n * 2)).drop (i * 2)) := by
  have hn : (src.take (m * 2)).length = m * 2 := by rw [List.length_take]; omega
  have ho : (row.take (i * 2)).length = i * 2 := by rw [List.length_take]; omega
  have hd : ((row.take (n * 2)).drop (i * 2)).length = (n - i) * 2 := by rw [List.length_drop, List.length_take]; omega
  have hoc := row_cells hg 0 (row.take (i * 2)) (by rw [ho]; simp)
  have hm0 : ((m : Int) == 0) = false := by simp; omega
  have hin : ((i : Int) == (n : Int)) = false := by simp; omega
  have hci : ¬ cap = i := by omega
  have hgl : g < w.heap.size := (Array.getElem?_eq_some_iff.1 hg).1
  have hhl : h < w.heap.size := (Array.getElem?_eq_some_iff.1 hh).1
  have HG : Hid _ := hg
  have HH : Hid _ := hh
  have H1 : Hid _ := h1
  have H1D : Hid (∀ v ∈ (row.take (n * 2)).drop (i * 2), v.oneCell' = true) := fun v hv => h1r v (List.mem_of_mem_drop hv)
  have HL : Hid _ := hrl
  have HN : Hid _ := hn
  have HO : Hid _ := ho
  have HD : Hid _ := hd
  have HOC : Hid _ := hoc
  clear hoc hn ho hd hg hh h1 hrl h1r
  go_enter Tryz.func184, Tryz.ntmps184
  go_wp2_with (at_builtin; refine wpList_zeros2 rfl _ _ rfl ⟨g, 0, none⟩ i cap rfl (row.take (i * 2)) HO.out HOC.out _ (n + m - i) rfl (by omega) (by omega) (by omega) (by omega) (n + m) (by omega) ?_; intro w1 cap' tail hr hc1 hc2 hl hg1)
  obtain ⟨w2, hrun, hrow, hg2⟩ := run_copy2 w1 3 (some ⟨w.heap.size, i * 2, none⟩) (some ⟨h, 0, none⟩) (n + m - i) (cap' - i) m c w.heap.size (i * 2) _ hr.out (src.take (m * 2)) (by rw [HN.out]; simp only [Nat.min_def]; split <;> omega)
    (fun _ => ⟨rfl, _, rfl, row_cells (heap_grown hg1.out HH.out (by simp)) 0 (src.take (m * 2)) (by rw [HN.out]; simp)⟩) (by rw [HN.out]; have := hl.out; omega) H1.out
  have HROW : Hid _ := hrow
  have HG2 : Hid _ := hg2
  clear hrow hg2
  have hci' : ¬ cap' = i + m := by omega
  have hw1 : IntKind.i64.wrap ((i : Int) + (m : Int)) = (i : Int) + (m : Int) := by rw [IntKind.wrap_i64]; omega
  have hb1 : (0 : Int) ≤ (i : Int) + (m : Int) := by omega
  have hin' : i ≤ n := by omega
  have htn : ((i : Int) + (m : Int)).toNat = i + m := by omega
  rw [hrun]
  clear hrun
  obtain ⟨w3, hrun3, hrow3, hg3⟩ := run_copy2 w2.drew 3 (some ⟨w.heap.size, (i + m) * 2, none⟩) (some ⟨g, i * 2, none⟩) (n + m - (i + m)) (cap' - (i + m)) (n - i) (cap - i) w.heap.size ((i + m) * 2) _ HROW.out ((row.take (n * 2)).drop (i * 2))
    (by rw [HD.out]; simp only [Nat.min_def]; split <;> omega)
    (fun _ => ⟨rfl, _, rfl, row_cells (row := row) (heap_grown (grown_new (r := none) hg1.out (grown_drew HG2.out) (Nat.le_refl _)) HG.out (by simp)) (i * 2) _ (by rw [HD.out, List.drop_take]; congr 1; omega)⟩) (by rw [HD.out, length_splice _ _ _ (by rw [HN.out]; have := hl.out; omega)]; have := hl.out; omega) H1D.out
  have HROW3 : Hid _ := hrow3
  have HG3 : Hid _ := hg3
  clear hrow3 hg3
  go_wp2
  go_region_law (refine step_copy_eq rfl (.tmp 50) (.tmp 53) rfl rfl _ _ (by simp [Act.eval, Act.put]) (by simp [Act.eval, Act.put]) hrun3 ?_)
  go_wp2
  go_ret
  have e := splice_grown (row.take (i * 2)) (zeros (n + m - i)) tail (src.take (m * 2)) ((row.take (n * 2)).drop (i * 2)) (by rw [length_zeros, HN.out, HD.out]; omega) (i * 2) ((i + m) * 2) HO.out.symm (by rw [HO.out, HN.out]; omega)
  refine ⟨_, rfl, own_mk HROW3.out hc1 hc2 ?_ ?_, grown_any (grown_new (grown_new (r := none) hg1.out (grown_drew HG2.out) (Nat.le_refl _)) HG3.out (Nat.le_refl _)), .inr ⟨_, rfl, Nat.le_refl _⟩⟩
  · rw [e, ← hl.out]
    simp only [List.length_append, length_zeros, HN.out, HD.out]
    omega
  · rw [e]
    have hlen : (row.take (i * 2) ++ src.take (m * 2) ++ (row.take (n * 2)).drop (i * 2)).length = (n + m) * 2 := by simp only [List.length_append, HO.out, HN.out, HD.out]; omega
    rw [← hlen, List.take_left]

theorem size29 : ∀ w, (Go.sizeOf 144).run Tryz.prog w = .ok 2 w := by
  obtain ⟨i, hi, hz0, hz1, hz2⟩ := info_parts info29
  intro w
  simp [sizeOf, typeInfo, hi, hz1]
theorem overlaps_apart (w : World) (h k m c lb cb g off : Nat) (src row : List Value) (hne : h ≠ g) (hh : w.heap[h]? = some (.cells src.toArray 144 (0, 0))) (hg : w.heap[g]? = some (.cells row.toArray 144 (0, 0))) (hr : row.length ≠ 0) :
    (callFunc 185 #[.slice (some ⟨h, k, none⟩) m c, .slice (some ⟨g, off, none⟩) lb cb]).run Tryz.prog w = .ok (.value (.bool false)) w := by
  rw [run_callFunc_extern Tryz.func185 (by kernel_rfl) (by kernel_rfl) (by kernel_rfl) (e := Extern.SlicesOverlaps.overlaps #[80, 80] #[4]) (by kernel_rfl),
    Lib.run_overlaps_apart w 80 4 144 Tryz.underlying80 2 size29 ⟨h, k, none⟩ ⟨g, off, none⟩ m c lb cb hne 144 144 src.length row.length (by simp [World.shape?, hh]) (by simp [World.shape?, hg]) hr (by simp [World.frozen?, hh]) (by simp [World.frozen?, hh])]
  rfl

set_option maxHeartbeats 1000000 in
/-- In the middle, where there is room. -/
theorem insert_mid_room (w : World) (g n cap i : Nat) (row : List Value) (hg : w.heap[g]? = some (.cells row.toArray 144 (0, 0))) (hi : i < n) (hcm : cap ≤ maxLen) (hrl : row.length = cap * 2) (h1r : ∀ v ∈ row.take (n * 2), v.oneCell' = true)
    (h m c : Nat) (src : List Value) (hne : h ≠ g) (hh : w.heap[h]? = some (.cells src.toArray 144 (0, 0))) (hm : m * 2 ≤ src.length) (h1 : ∀ v ∈ src.take (m * 2), v.oneCell' = true) (h0 : 0 < m) (hroom : n + m ≤ cap) :
    Calls Tryz.prog 184 #[.slice (some ⟨g, 0, none⟩) n cap, .int .i64 i, .slice (some ⟨h, 0, none⟩) m c] w fun e w' => ∃ v', e = .returned v' ∧ Placed w w' (.slice (some ⟨g, 0, none⟩) n cap) v' (n + m) (row.take (i * 2) ++ src.take (m * 2) ++ (row.take (n * 2)).drop (i * 2)) := by
  unfold maxLen at hcm
  have hn : (src.take (m * 2)).length = m * 2 := by rw [List.length_take]; omega
  have hd : ((row.take (n * 2)).drop (i * 2)).length = (n - i) * 2 := by rw [List.length_drop, List.length_take]; omega
  have hm0 : ((m : Int) == 0) = false := by simp; omega
  have hin : ((i : Int) == (n : Int)) = false := by simp; omega
  have hci : ¬ cap = i := by omega
  have hov := fun lb cb => overlaps_apart w h 0 m c lb cb g ((i + m) * 2) src row hne hh hg (by omega)
  obtain ⟨w2, hrun2, hrow2, hg2⟩ := run_copy2 w.drew 3 (some ⟨g, (i + m) * 2, none⟩) (some ⟨g, i * 2, none⟩) (n + m - (i + m)) (cap - (i + m)) (n + m - i) (cap - i) g ((i + m) * 2) row hg ((row.take (n * 2)).drop (i * 2))
    (by rw [hd]; simp only [Nat.min_def]; split <;> omega) (fun _ => ⟨rfl, _, rfl, row_cells (row := row) hg (i * 2) _ (by rw [hd, List.drop_take]; congr 1; omega)⟩) (by rw [hd, hrl]; omega) (fun v hv => h1r v (List.mem_of_mem_drop hv))
  have hls : (splice row ((i + m) * 2) ((row.take (n * 2)).drop (i * 2))).length = cap * 2 := by rw [length_splice _ _ _ (by rw [hd, hrl]; omega), hrl]
  obtain ⟨w3, hrun3, hrow3, hg3⟩ := run_copy2 w2 3 (some ⟨g, i * 2, none⟩) (some ⟨h, 0, none⟩) (n + m - i) (cap - i) m c g (i * 2) _ hrow2 (src.take (m * 2)) (by rw [hn]; simp only [Nat.min_def]; split <;> omega)
    (fun _ => ⟨rfl, _, rfl, row_cells (heap_grown (a := w.drew) hg2 hh (by simp; omega)) 0 (src.take (m * 2)) (by rw [hn]; simp)⟩) (by rw [hn, hls]; omega) h1
  have e := splice_shift row (src.take (m * 2)) ((row.take (n * 2)).drop (i * 2)) (i * 2) ((i + m) * 2) ((n + m) * 2) (by rw [hn]; omega) (by rw [hd]; omega) (by rw [hrl]; omega)
  have hl3 : (splice (splice row ((i + m) * 2) ((row.take (n * 2)).drop (i * 2))) (i * 2) (src.take (m * 2))).length = cap * 2 := by rw [length_splice _ _ _ (by rw [hn, hls]; omega), hls]
  have HP : Hid (Placed w w3 (.slice (some ⟨g, 0, none⟩) n cap) (.slice (some ⟨g, 0, none⟩) (n + m) cap) (n + m) (row.take (i * 2) ++ src.take (m * 2) ++ (row.take (n * 2)).drop (i * 2))) :=
    ⟨own_mk hrow3 hroom (by unfold maxLen; omega) hl3 e, grown_trans (grown_trans (grown_drew (grown_refl w (some g))) hg2) hg3, .inl rfl⟩
  have HR3 : Hid _ := hrun3
  generalize (row.take (i * 2) ++ src.take (m * 2) ++ (row.take (n * 2)).drop (i * 2)) = res at *
  clear hrun3 hrow2 hrow3 hg2 hg3 e hl3 hls hn hd h1 h1r hh hg hrl hm
  have hw1 : IntKind.i64.wrap ((i : Int) + (m : Int)) = (i : Int) + (m : Int) := by rw [IntKind.wrap_i64]; omega
  have hb1 : (0 : Int) ≤ (i : Int) + (m : Int) := by omega
  have hin' : i ≤ n := by omega
  have htn : ((i : Int) + (m : Int)).toNat = i + m := by omega
  have hb2 : ¬ cap = i + m := by omega
  have hb3 : (i : Int) ≤ (n : Int) + (m : Int) := by omega
  go_enter Tryz.func184, Tryz.ntmps184
  go_wp2
  go_region_law (refine step_copy_eq rfl (.tmp 73) (.tmp 76) rfl rfl _ _ (by simp [Act.eval, Act.put]) (by simp [Act.eval, Act.put]) hrun2 ?_)
  go_wp2
  rw [HR3.out]
  go_wp2
  go_ret
  exact ⟨_, rfl, HP.out⟩

/-- slices.Insert, wherever. -/
theorem insert_any (w : World) (s : Value) (n : Nat) (xs : List Value) (own : w.ownsRow 0 144 2 s n xs) (h1x : ∀ v ∈ xs, v.oneCell' = true) (i : Nat) (hi : i ≤ n)
    (h m c : Nat) (src : List Value) (hne : s.ownBlock ≠ some h) (hh : w.heap[h]? = some (.cells src.toArray 144 (0, 0))) (hm : m * 2 ≤ src.length) (h1 : ∀ v ∈ src.take (m * 2), v.oneCell' = true) (h0 : 0 < m) (hb : (n + m) * 16 ≤ 140737488355328) :
    Calls Tryz.prog 184 #[s, .int .i64 i, .slice (some ⟨h, 0, none⟩) m c] w fun e w' => ∃ v', e = .returned v' ∧ Placed w w' s v' (n + m) (xs.take (i * 2) ++ src.take (m * 2) ++ xs.drop (i * 2)) := by
  obtain ⟨hlen, ⟨rfl, rfl⟩ | ⟨g, cap, cur, rfl, _, hg, hnc, hcm, hcs, htk⟩⟩ := own
  · obtain rfl : xs = [] := List.eq_nil_of_length_eq_zero (by simpa using hlen)
    obtain rfl : i = 0 := by omega
    simpa using insert_nil w h m c src hh hm h0 (by omega)
  · have hg' : w.heap[g]? = some (.cells cur.toList.toArray 144 (0, 0)) := by simpa using hg
    have hrl : cur.toList.length = cap * 2 := by simpa using hcs
    have hne' : h ≠ g := fun e => hne (by rw [e]; rfl)
    subst htk
    rw [List.take_take, show min (i * 2) (n * 2) = i * 2 by omega]
    by_cases hin : i = n
    · subst hin
      have hdr : (cur.toList.take (i * 2)).drop (i * 2) = [] := by apply List.drop_eq_nil_of_le; simp; omega
      rw [hdr, List.append_nil]
      by_cases hroom : i + m ≤ cap
      · exact insert_room w g i cap _ hg' hnc hcm hrl h m c src hh hm h1 h0 hroom
      · exact insert_grow w g i cap _ hg' hnc hcm hrl h m c src hh hm h0 (by omega) hb
    · by_cases hroom : n + m ≤ cap
      · exact insert_mid_room w g n cap i _ hg' (by omega) hcm hrl h1x h m c src hne' hh hm h1 h0 hroom
      · exact insert_mid_grow w g n cap i _ hg' (by omega) hnc hcm hrl h1x h m c src hh hm h1 h0 (by omega) hb

end Go.Proofs.YtnflgkobedbemaaGreatDoor

namespace Go.Proofs.YtnflgkobedbemaaGreatDoor
open Go.RowKit
set_option maxRecDepth 100000

set_option maxRecDepth 100000 in
set_option maxHeartbeats 1000000 in
/-- The tail gives way, and there is room. -/
theorem replace_tail_room (w : World) (g n cap i : Nat) (row : List Value) (hg : w.heap[g]? = some (.cells row.toArray 144 (0, 0))) (hi : i < n) (hnc : n ≤ cap) (hcm : cap ≤ maxLen) (hrl : row.length = cap * 2)
    (h m c : Nat) (src : List Value) (hh : w.heap[h]? = some (.cells src.toArray 144 (0, 0))) (hm : m * 2 ≤ src.length) (h1 : ∀ v ∈ src.take (m * 2), v.oneCell' = true) (hroom : i + m ≤ cap) :
    Calls Tryz.prog 159 #[.slice (some ⟨g, 0, none⟩) n cap, .int .i64 i, .int .i64 n, .slice (some ⟨h, 0, none⟩) m c] w fun e w' => ∃ v', e = .returned v' ∧ Placed w w' (.slice (some ⟨g, 0, none⟩) n cap) v' (i + m) (row.take (i * 2) ++ src.take (m * 2)) := by
  have hcm' := hcm
  unfold maxLen at hcm'
  have hn : (src.take (m * 2)).length = m * 2 := by rw [List.length_take]; omega
  have hc := row_cells hh 0 (src.take (m * 2)) (by rw [hn]; simp)
  have hin : ((i : Int) == (n : Int)) = false := by simp; omega
  have hci : ¬ cap = i := by omega
  have HE : Hid ((splice row (i * 2) (src.take (m * 2))).take ((i + m) * 2) = row.take (i * 2) ++ src.take (m * 2)) := by
    have e := splice_close row (src.take (m * 2)) [] (i * 2) (i * 2 + (src.take (m * 2)).length) ((i + m) * 2) rfl (by rw [hn]; simp; omega) (by rw [hrl]; omega)
    rw [List.append_nil] at e
    show _ = _
    rw [← e]
    congr 1
    simp [splice]
  have HLS : Hid ((splice row (i * 2) (src.take (m * 2))).length = cap * 2) := by
    show _ = _
    rw [length_splice _ _ _ (by rw [hn, hrl]; omega), hrl]
  have HFIT : Hid (i * 2 + (src.take (m * 2)).length ≤ row.length) := by
    show _ ≤ _
    rw [hn, hrl]; omega
  have HC : Hid _ := hc
  have HN : Hid _ := hn
  have HG : Hid _ := hg
  have H1 : Hid _ := h1
  generalize src.take (m * 2) = news at *
  clear hc hn hh hg h1 hrl
  by_cases hlt : i + m < n
  · have hlt' : (i : Int) + (m : Int) < (n : Int) := by omega
    have hcim : ¬ cap = i + m := by omega
    go_enter Tryz.func159, Tryz.ntmps159
    go_wp2_with (at_builtin; refine wpList_room2 rfl _ _ rfl g i cap rfl row HG.out ⟨h, 0, none⟩ m c rfl news HN.out HC.out H1.out hroom HFIT.out ?_; intro w1 hr hg1)
    obtain ⟨w2, hrun, hrow2, hg2⟩ := run_clear2 w1 (some ⟨g, (i + m) * 2, none⟩) (n - (i + m)) (cap - (i + m)) g ((i + m) * 2) _ hr.out (fun _ => rfl) (by rw [HLS.out]; omega)
    have HP : Hid (Placed w w2 (.slice (some ⟨g, 0, none⟩) n cap) (.slice (some ⟨g, 0, none⟩) (i + m) cap) (i + m) (row.take (i * 2) ++ news)) :=
      ⟨own_mk hrow2 hroom hcm (by rw [length_splice _ _ _ (by rw [length_zeros, HLS.out]; omega), HLS.out]) (by rw [← HE.out]; unfold splice; rw [List.take_append_of_le_length (by rw [List.length_take]; have := HLS.out; unfold splice at this; omega), List.take_take, Nat.min_self]), grown_trans hg1.out hg2, .inl rfl⟩
    clear hrow2 hg2
    rw [hrun]
    go_wp2
    go_ret
    exact ⟨_, rfl, HP.out⟩
  · have hlt' : ¬ (i : Int) + (m : Int) < (n : Int) := by omega
    go_enter Tryz.func159, Tryz.ntmps159
    go_wp2_with (at_builtin; refine wpList_room2 rfl _ _ rfl g i cap rfl row HG.out ⟨h, 0, none⟩ m c rfl news HN.out HC.out H1.out hroom HFIT.out ?_; intro w1 hr hg1)
    go_ret
    exact ⟨_, rfl, own_mk hr.out hroom hcm HLS.out HE.out, hg1.out, .inl rfl⟩

set_option maxRecDepth 100000 in
set_option maxHeartbeats 1000000 in
/-- The tail gives way, and there is no room. -/
theorem replace_tail_grow (w : World) (g n cap i : Nat) (row : List Value) (hg : w.heap[g]? = some (.cells row.toArray 144 (0, 0))) (hi : i < n) (hnc : n ≤ cap) (hrl : row.length = cap * 2)
    (h m c : Nat) (src : List Value) (hh : w.heap[h]? = some (.cells src.toArray 144 (0, 0))) (hm : m * 2 ≤ src.length) (hroom : cap < i + m) (hb : (i + m) * 16 ≤ 140737488355328) :
    Calls Tryz.prog 159 #[.slice (some ⟨g, 0, none⟩) n cap, .int .i64 i, .int .i64 n, .slice (some ⟨h, 0, none⟩) m c] w fun e w' => ∃ v', e = .returned v' ∧ Placed w w' (.slice (some ⟨g, 0, none⟩) n cap) v' (i + m) (row.take (i * 2) ++ src.take (m * 2)) := by
  have hn : (src.take (m * 2)).length = m * 2 := by rw [List.length_take]; omega
  have hc := row_cells hh 0 (src.take (m * 2)) (by rw [hn]; simp)
  have ho : (row.take (i * 2)).length = i * 2 := by rw [List.length_take]; omega
  have hoc := row_cells hg 0 (row.take (i * 2)) (by rw [ho]; simp)
  have hin : ((i : Int) == (n : Int)) = false := by simp; omega
  have hci : ¬ cap = i := by omega
  generalize src.take (m * 2) = news at *
  generalize row.take (i * 2) = olds at *
  have HC : Hid _ := hc
  have HN : Hid _ := hn
  have HO : Hid _ := ho
  have HOC : Hid _ := hoc
  clear hc hn hh hg hrl ho hoc
  have hlt' : ¬ (i : Int) + (m : Int) < (n : Int) := by omega
  go_enter Tryz.func159, Tryz.ntmps159
  go_wp2_with (at_builtin; refine wpList_grow2 rfl _ _ rfl ⟨g, 0, none⟩ i cap rfl olds HO.out HOC.out ⟨h, 0, none⟩ m c rfl news HN.out HC.out hroom hb ?_; intro w1 cap' tail hr hc1 hc2 hl hg1)
  go_ret
  refine ⟨_, rfl, own_mk hr.out hc1 hc2 hl.out ?_, grown_any hg1.out, .inr ⟨_, rfl, Nat.le_refl _⟩⟩
  rw [show (i + m) * 2 = (olds ++ news).length by rw [List.length_append, HO.out, HN.out]; omega, List.take_left]

theorem placed_drewN {w w' : World} {q : Nat} {s v' : Value} {n : Nat} {xs : List Value} (h : Placed (w.drewN q) w' s v' n xs) : Placed w w' s v' n xs :=
  ⟨h.own, ⟨h.grown.os, h.grown.tape, h.grown.output, h.grown.size, h.grown.block⟩, h.block⟩

theorem grown_drewN {a b : World} {q : Nat} {r : Option Nat} (h : World.grownBy (a.drewN q) b r) : a.grownBy b r := ⟨h.os, h.tape, h.output, h.size, h.block⟩
/-- What the two copies and the clear do, where it closes up. -/
theorem close_core (w : World) (g d cap i j : Nat) (row : List Value) (hg : w.heap[g]? = some (.cells row.toArray 144 (0, 0))) (hnc : j + d ≤ cap) (hcm : cap ≤ maxLen) (hrl : row.length = cap * 2) (h1r : ∀ v ∈ row.take ((j + d) * 2), v.oneCell' = true)
    (h m c : Nat) (src : List Value) (hh : w.heap[h]? = some (.cells src.toArray 144 (0, 0))) (hm : m * 2 ≤ src.length) (h1 : ∀ v ∈ src.take (m * 2), v.oneCell' = true) (hmj : i + m ≤ j) :
    ∃ w2, (Builtin.copy_ #[80, 80] 3 #[.slice (some ⟨g, i * 2, none⟩) (i + m + d - i) (cap - i), .slice (some ⟨h, 0, none⟩) m c]).run Tryz.prog w = .ok (goInt (Nat.min m (i + m + d - i))) w2 ∧
    ∃ w3, (Builtin.copy_ #[80, 80] 3 #[.slice (some ⟨g, (i + m) * 2, none⟩) d (cap - (i + m)), .slice (some ⟨g, j * 2, none⟩) d (cap - j)]).run Tryz.prog w2.drew = .ok (goInt (Nat.min d d)) w3 ∧
    ∀ ap : Option Addr, (0 < j + d - (i + m + d) → ap = some ⟨g, (i + m + d) * 2, none⟩) → ∃ w4, (∀ ty, (Builtin.clear_ #[80] ty #[.slice ap (j + d - (i + m + d)) (cap - (i + m + d))]).run Tryz.prog w3 = .ok (.tuple #[]) w4) ∧
      Placed w w4 (.slice (some ⟨g, 0, none⟩) (j + d) cap) (.slice (some ⟨g, 0, none⟩) (i + m + d) cap) (i + m + d) (row.take (i * 2) ++ src.take (m * 2) ++ (row.take ((j + d) * 2)).drop (j * 2)) := by
  have hn : (src.take (m * 2)).length = m * 2 := by rw [List.length_take]; omega
  have hdl : ((row.take ((j + d) * 2)).drop (j * 2)).length = d * 2 := by rw [List.length_drop, List.length_take]; omega
  obtain ⟨w2, hrun2, hrow2, hg2⟩ := run_copy2 w 3 (some ⟨g, i * 2, none⟩) (some ⟨h, 0, none⟩) (i + m + d - i) (cap - i) m c g (i * 2) row hg (src.take (m * 2)) (by rw [hn]; simp only [Nat.min_def]; split <;> omega)
    (fun _ => ⟨rfl, _, rfl, row_cells hh 0 (src.take (m * 2)) (by rw [hn]; simp)⟩) (by rw [hn, hrl]; omega) h1
  have hls : (splice row (i * 2) (src.take (m * 2))).length = cap * 2 := by rw [length_splice _ _ _ (by rw [hn, hrl]; omega), hrl]
  have hdc : (row.take ((j + d) * 2)).drop (j * 2) = ((splice row (i * 2) (src.take (m * 2))).drop (j * 2)).take ((row.take ((j + d) * 2)).drop (j * 2)).length := by
    rw [hdl]
    apply List.ext_getElem?
    intro t
    rw [List.drop_take, List.getElem?_take, List.getElem?_take, show (j + d) * 2 - j * 2 = d * 2 by omega]
    by_cases ht : t < d * 2
    · rw [if_pos ht, if_pos ht, List.getElem?_drop, List.getElem?_drop, get_splice _ _ _ (by rw [hn, hrl]; omega), if_neg (by omega), if_neg (by rw [hn]; omega)]
    · rw [if_neg ht, if_neg ht]
  obtain ⟨w3, hrun3, hrow3, hg3⟩ := run_copy2 w2.drew 3 (some ⟨g, (i + m) * 2, none⟩) (some ⟨g, j * 2, none⟩) d (cap - (i + m)) d (cap - j) g ((i + m) * 2) _ hrow2 ((row.take ((j + d) * 2)).drop (j * 2))
    (by rw [hdl]; simp only [Nat.min_def]; split <;> omega) (fun _ => ⟨rfl, _, rfl, row_cells (w := w2.drew) hrow2 (j * 2) _ hdc⟩) (by rw [hdl, hls]; omega) (fun v hv => h1r v (List.mem_of_mem_drop hv))
  have hl3 : (splice (splice row (i * 2) (src.take (m * 2))) ((i + m) * 2) ((row.take ((j + d) * 2)).drop (j * 2))).length = cap * 2 := by rw [length_splice _ _ _ (by rw [hdl, hls]; omega), hls]
  have e := splice_close row (src.take (m * 2)) ((row.take ((j + d) * 2)).drop (j * 2)) (i * 2) ((i + m) * 2) ((i + m + d) * 2) (by rw [hn]; omega) (by rw [hdl]; omega) (by rw [hrl]; omega)
  refine ⟨w2, hrun2, w3, hrun3, fun ap hap => ?_⟩
  obtain ⟨w4, hrun4, hrow4, hg4⟩ := run_clear2 w3 ap (j + d - (i + m + d)) (cap - (i + m + d)) g ((i + m + d) * 2) _ hrow3 hap (by rw [hl3]; omega)
  refine ⟨w4, hrun4, own_mk hrow4 (by omega) hcm (by rw [length_splice _ _ _ (by rw [length_zeros, hl3]; omega), hl3]) ?_, grown_trans (grown_trans (grown_drew hg2) hg3) hg4, .inl rfl⟩
  rw [← e, splice, List.take_append_of_le_length (by rw [List.length_take, hl3]; omega), List.take_take, Nat.min_self]

theorem clear_none (w : World) (ap : Option Addr) (c : Nat) (ty : TypeId) : (Builtin.clear_ #[80] ty #[.slice ap 0 c]).run Tryz.prog w = .ok (.tuple #[]) w := by
  cases ap <;> simp [Builtin.clear_, run_underlying Tryz.underlying80]

set_option maxRecDepth 100000 in
set_option maxHeartbeats 1000000 in
/-- In the middle, and it closes up. -/
theorem replace_close (w : World) (g d cap i j : Nat) (row : List Value) (hg : w.heap[g]? = some (.cells row.toArray 144 (0, 0))) (hij : i < j) (hd : 0 < d) (hnc : j + d ≤ cap) (hcm : cap ≤ maxLen) (hrl : row.length = cap * 2) (h1r : ∀ v ∈ row.take ((j + d) * 2), v.oneCell' = true)
    (h m c : Nat) (src : List Value) (hh : w.heap[h]? = some (.cells src.toArray 144 (0, 0))) (hm : m * 2 ≤ src.length) (h1 : ∀ v ∈ src.take (m * 2), v.oneCell' = true) (hmj : i + m ≤ j) :
    Calls Tryz.prog 159 #[.slice (some ⟨g, 0, none⟩) (j + d) cap, .int .i64 i, .int .i64 j, .slice (some ⟨h, 0, none⟩) m c] w fun e w' => ∃ v', e = .returned v' ∧ Placed w w' (.slice (some ⟨g, 0, none⟩) (j + d) cap) v' (i + m + d) (row.take (i * 2) ++ src.take (m * 2) ++ (row.take ((j + d) * 2)).drop (j * 2)) := by
  have HCORE : Hid _ := fun q => close_core (w.drewN q) g d cap i j row hg hnc hcm hrl h1r h m c src hh hm h1 hmj
  unfold maxLen at hcm
  generalize (row.take (i * 2) ++ src.take (m * 2) ++ (row.take ((j + d) * 2)).drop (j * 2)) = res at *
  clear h1 hh hg hrl h1r hm
  have hin : ((i : Int) == (j : Int)) = false := by simp; omega
  have hjn : ((j : Int) == (j : Int) + (d : Int)) = false := by simp; omega
  have hci : ¬ cap = i := by omega
  have hcj : ¬ cap = j := by omega
  have hcm2 : ¬ cap = i + m := by omega
  have hw1 : IntKind.i64.wrap ((i : Int) + (m : Int)) = (i : Int) + (m : Int) := by rw [IntKind.wrap_i64]; omega
  have hb1 : (0 : Int) ≤ (i : Int) + (m : Int) := by omega
  have htn : ((i : Int) + (m : Int)).toNat = i + m := by omega
  have hb5 : (i : Int) + (m : Int) ≤ (i : Int) + (m : Int) + (d : Int) := by omega
  have hb6 : (j : Int) ≤ (j : Int) + (d : Int) := by omega
  go_enter Tryz.func159, Tryz.ntmps159
  go_wp2
  go_quiet (fail)
  go_wp2
  obtain ⟨w2, hrun2, w3, hrun3, hcl⟩ := HCORE.out nq
  have HCL : Hid _ := hcl
  have HR3 : Hid _ := hrun3
  clear hcl hrun3 HCORE
  rw [hrun2]
  clear hrun2
  go_wp2
  go_region_law (refine step_copy_eq rfl (.tmp 103) (.tmp 106) rfl rfl _ _ (by simp [Act.eval, Act.put]) (by simp [Act.eval, Act.put]) HR3.out ?_)
  by_cases hct : cap = i + m + d
  · obtain ⟨w4, hrun4, hP⟩ := HCL.out (some ⟨g, 0, none⟩) (by omega)
    have hjm : j = i + m := by omega
    have hz := clear_none w3
    have e4 : w4 = w3 := by
      have h4 := hrun4 0
      rw [show j + d - (i + m + d) = 0 by omega, hz] at h4
      simpa using h4.symm
    subst e4
    have HP : Hid _ := placed_drewN hP
    clear hP hrun4
    subst hjm
    subst hct
    go_wp2
    go_ret
    exact ⟨_, rfl, HP.out⟩
  · obtain ⟨w4, hrun4, hP⟩ := HCL.out (some ⟨g, (i + m + d) * 2, none⟩) (fun _ => rfl)
    have HP : Hid _ := placed_drewN hP
    clear hP
    go_wp2
    go_ret
    exact ⟨_, rfl, HP.out⟩

/-- What the two copies do, where it opens up and there is room. -/
theorem open_core (w : World) (g d cap i j : Nat) (row : List Value) (hg : w.heap[g]? = some (.cells row.toArray 144 (0, 0))) (hnc : j + d ≤ cap) (hcm : cap ≤ maxLen) (hrl : row.length = cap * 2) (h1r : ∀ v ∈ row.take ((j + d) * 2), v.oneCell' = true)
    (h m c : Nat) (src : List Value) (hne : h ≠ g) (hh : w.heap[h]? = some (.cells src.toArray 144 (0, 0))) (hm : m * 2 ≤ src.length) (h1 : ∀ v ∈ src.take (m * 2), v.oneCell' = true) (hroom : i + m + d ≤ cap) :
    ∃ w2, (Builtin.copy_ #[80, 80] 3 #[.slice (some ⟨g, (i + m) * 2, none⟩) d (cap - (i + m)), .slice (some ⟨g, j * 2, none⟩) d (cap - j)]).run Tryz.prog w.drew = .ok (goInt (Nat.min d d)) w2 ∧
    ∃ w3, (Builtin.copy_ #[80, 80] 3 #[.slice (some ⟨g, i * 2, none⟩) (i + m + d - i) (cap - i), .slice (some ⟨h, 0, none⟩) m c]).run Tryz.prog w2 = .ok (goInt (Nat.min m (i + m + d - i))) w3 ∧
      Placed w w3 (.slice (some ⟨g, 0, none⟩) (j + d) cap) (.slice (some ⟨g, 0, none⟩) (i + m + d) cap) (i + m + d) (row.take (i * 2) ++ src.take (m * 2) ++ (row.take ((j + d) * 2)).drop (j * 2)) := by
  have hn : (src.take (m * 2)).length = m * 2 := by rw [List.length_take]; omega
  have hdl : ((row.take ((j + d) * 2)).drop (j * 2)).length = d * 2 := by rw [List.length_drop, List.length_take]; omega
  obtain ⟨w2, hrun2, hrow2, hg2⟩ := run_copy2 w.drew 3 (some ⟨g, (i + m) * 2, none⟩) (some ⟨g, j * 2, none⟩) d (cap - (i + m)) d (cap - j) g ((i + m) * 2) row hg ((row.take ((j + d) * 2)).drop (j * 2))
    (by rw [hdl]; simp only [Nat.min_def]; split <;> omega) (fun _ => ⟨rfl, _, rfl, row_cells (w := w.drew) (row := row) hg (j * 2) _ (by rw [hdl, List.drop_take]; congr 1; omega)⟩) (by rw [hdl, hrl]; omega) (fun v hv => h1r v (List.mem_of_mem_drop hv))
  have hls : (splice row ((i + m) * 2) ((row.take ((j + d) * 2)).drop (j * 2))).length = cap * 2 := by rw [length_splice _ _ _ (by rw [hdl, hrl]; omega), hrl]
  obtain ⟨w3, hrun3, hrow3, hg3⟩ := run_copy2 w2 3 (some ⟨g, i * 2, none⟩) (some ⟨h, 0, none⟩) (i + m + d - i) (cap - i) m c g (i * 2) _ hrow2 (src.take (m * 2)) (by rw [hn]; simp only [Nat.min_def]; split <;> omega)
    (fun _ => ⟨rfl, _, rfl, row_cells (heap_grown (a := w.drew) hg2 hh (by simp; omega)) 0 (src.take (m * 2)) (by rw [hn]; simp)⟩) (by rw [hn, hls]; omega) h1
  have e := splice_shift row (src.take (m * 2)) ((row.take ((j + d) * 2)).drop (j * 2)) (i * 2) ((i + m) * 2) ((i + m + d) * 2) (by rw [hn]; omega) (by rw [hdl]; omega) (by rw [hrl]; omega)
  have hl3 : (splice (splice row ((i + m) * 2) ((row.take ((j + d) * 2)).drop (j * 2))) (i * 2) (src.take (m * 2))).length = cap * 2 := by rw [length_splice _ _ _ (by rw [hn, hls]; omega), hls]
  exact ⟨w2, hrun2, w3, hrun3, own_mk hrow3 hroom hcm hl3 e, grown_trans (grown_trans (grown_drew (grown_refl w (some g))) hg2) hg3, .inl rfl⟩

set_option maxRecDepth 100000 in
set_option maxHeartbeats 1000000 in
/-- In the middle, it opens up, and there is room. -/
theorem replace_open (w : World) (g d cap i j : Nat) (row : List Value) (hg : w.heap[g]? = some (.cells row.toArray 144 (0, 0))) (hij : i < j) (hd : 0 < d) (hnc : j + d ≤ cap) (hcm : cap ≤ maxLen) (hrl : row.length = cap * 2) (h1r : ∀ v ∈ row.take ((j + d) * 2), v.oneCell' = true)
    (h m c : Nat) (src : List Value) (hne : h ≠ g) (hh : w.heap[h]? = some (.cells src.toArray 144 (0, 0))) (hm : m * 2 ≤ src.length) (h1 : ∀ v ∈ src.take (m * 2), v.oneCell' = true) (hmj : j < i + m) (hroom : i + m + d ≤ cap) :
    Calls Tryz.prog 159 #[.slice (some ⟨g, 0, none⟩) (j + d) cap, .int .i64 i, .int .i64 j, .slice (some ⟨h, 0, none⟩) m c] w fun e w' => ∃ v', e = .returned v' ∧ Placed w w' (.slice (some ⟨g, 0, none⟩) (j + d) cap) v' (i + m + d) (row.take (i * 2) ++ src.take (m * 2) ++ (row.take ((j + d) * 2)).drop (j * 2)) := by
  have HCORE : Hid _ := fun q => open_core (w.drewN q) g d cap i j row hg hnc hcm hrl h1r h m c src hne hh hm h1 hroom
  have hov := fun q lb cb => overlaps_apart (w.drewN q) g ((i + m) * 2) lb cb m c h 0 row src (Ne.symm hne) hg hh (by omega)
  unfold maxLen at hcm
  generalize (row.take (i * 2) ++ src.take (m * 2) ++ (row.take ((j + d) * 2)).drop (j * 2)) = res at *
  clear h1 hh hg hrl h1r hm
  have hin : ((i : Int) == (j : Int)) = false := by simp; omega
  have hjn : ((j : Int) == (j : Int) + (d : Int)) = false := by simp; omega
  have hci : ¬ cap = i := by omega
  have hcj : ¬ cap = j := by omega
  have hcm2 : ¬ cap = i + m := by omega
  have hw1 : IntKind.i64.wrap ((i : Int) + (m : Int)) = (i : Int) + (m : Int) := by rw [IntKind.wrap_i64]; omega
  have hb1 : (0 : Int) ≤ (i : Int) + (m : Int) := by omega
  have htn : ((i : Int) + (m : Int)).toNat = i + m := by omega
  have hb5 : (i : Int) + (m : Int) ≤ (i : Int) + (m : Int) + (d : Int) := by omega
  have hb6 : (j : Int) ≤ (j : Int) + (d : Int) := by omega
  go_enter Tryz.func159, Tryz.ntmps159
  go_wp2
  go_quiet (fail)
  obtain ⟨w2, hrun2, w3, hrun3, hP⟩ := HCORE.out nq
  have HR2 : Hid _ := hrun2
  have HP : Hid _ := placed_drewN hP
  clear hP hrun2 HCORE
  go_wp2
  go_region_law (refine step_copy_eq rfl (.tmp 126) (.tmp 129) rfl rfl _ _ (by simp [Act.eval, Act.put]) (by simp [Act.eval, Act.put]) HR2.out ?_)
  go_wp2
  go_ret
  exact ⟨_, rfl, HP.out⟩

set_option maxRecDepth 100000 in
set_option maxHeartbeats 1000000 in
/-- In the middle, it opens up, and there is no room. -/
theorem replace_grow (w : World) (g d cap i j : Nat) (row : List Value) (hg : w.heap[g]? = some (.cells row.toArray 144 (0, 0))) (hij : i < j) (hd : 0 < d) (hnc : j + d ≤ cap) (hcm : cap ≤ maxLen) (hrl : row.length = cap * 2) (h1r : ∀ v ∈ row.take ((j + d) * 2), v.oneCell' = true)
    (h m c : Nat) (src : List Value) (hh : w.heap[h]? = some (.cells src.toArray 144 (0, 0))) (hm : m * 2 ≤ src.length) (h1 : ∀ v ∈ src.take (m * 2), v.oneCell' = true) (hroom : cap < i + m + d) (hb : (i + m + d) * 16 ≤ 140737488355328) :
    Calls Tryz.prog 159 #[.slice (some ⟨g, 0, none⟩) (j + d) cap, .int .i64 i, .int .i64 j, .slice (some ⟨h, 0, none⟩) m c] w fun e w' => ∃ v', e = .returned v' ∧ Placed w w' (.slice (some ⟨g, 0, none⟩) (j + d) cap) v' (i + m + d) (row.take (i * 2) ++ src.take (m * 2) ++ (row.take ((j + d) * 2)).drop (j * 2)) := by
  have hn : (src.take (m * 2)).length = m * 2 := by rw [List.length_take]; omega
  have ho : (row.take (i * 2)).length = i * 2 := by rw [List.length_take]; omega
  have hdl : ((row.take ((j + d) * 2)).drop (j * 2)).length = d * 2 := by rw [List.length_drop, List.length_take]; omega
  have hoc := row_cells hg 0 (row.take (i * 2)) (by rw [ho]; simp)
  unfold maxLen at hcm
  have hgl : g < w.heap.size := (Array.getElem?_eq_some_iff.1 hg).1
  have hhl : h < w.heap.size := (Array.getElem?_eq_some_iff.1 hh).1
  have HG : Hid _ := hg
  have HH : Hid _ := hh
  have H1 : Hid _ := h1
  have H1D : Hid (∀ v ∈ (row.take ((j + d) * 2)).drop (j * 2), v.oneCell' = true) := fun v hv => h1r v (List.mem_of_mem_drop hv)
  have HN : Hid _ := hn
  have HO : Hid _ := ho
  have HD : Hid _ := hdl
  have HOC : Hid _ := hoc
  clear hoc hn ho hdl hg hh h1 hrl h1r hm
  have hin : ((i : Int) == (j : Int)) = false := by simp; omega
  have hjn : ((j : Int) == (j : Int) + (d : Int)) = false := by simp; omega
  have hci : ¬ cap = i := by omega
  have hcj : ¬ cap = j := by omega
  have hw1 : IntKind.i64.wrap ((i : Int) + (m : Int)) = (i : Int) + (m : Int) := by rw [IntKind.wrap_i64]; omega
  have hb1 : (0 : Int) ≤ (i : Int) + (m : Int) := by omega
  have htn : ((i : Int) + (m : Int)).toNat = i + m := by omega
  have hb5 : (i : Int) + (m : Int) ≤ (i : Int) + (m : Int) + (d : Int) := by omega
  have hb6 : (j : Int) ≤ (j : Int) + (d : Int) := by omega
  go_enter Tryz.func159, Tryz.ntmps159
  go_wp2
  go_quiet (fail)
  go_wp2_with (at_builtin; refine wpList_zeros2 rfl _ _ rfl ⟨g, 0, none⟩ i cap rfl (row.take (i * 2)) HO.out HOC.out _ (m + d) rfl (by omega) (by omega) (by omega) (by omega) (i + m + d) (by omega) ?_; intro w1 cap' tail hr hc1 hc2 hl hg1)
  obtain ⟨w2, hrun, hrow, hg2⟩ := run_copy2 w1 3 (some ⟨w.heap.size, i * 2, none⟩) (some ⟨h, 0, none⟩) (i + m + d - i) (cap' - i) m c w.heap.size (i * 2) _ hr.out (src.take (m * 2)) (by rw [HN.out]; simp only [Nat.min_def]; split <;> omega)
    (fun _ => ⟨rfl, _, rfl, row_cells (heap_grown (grown_drewN hg1.out) HH.out (by simp)) 0 (src.take (m * 2)) (by rw [HN.out]; simp)⟩) (by rw [HN.out]; have := hl.out; omega) H1.out
  have HROW : Hid _ := hrow
  have HG2 : Hid _ := hg2
  clear hrow hg2
  rw [hrun]
  clear hrun
  have hci' : ¬ cap' = i + m := by omega
  obtain ⟨w3, hrun3, hrow3, hg3⟩ := run_copy2 w2.drew 3 (some ⟨w.heap.size, (i + m) * 2, none⟩) (some ⟨g, j * 2, none⟩) d (cap' - (i + m)) d (cap - j) w.heap.size ((i + m) * 2) _ HROW.out ((row.take ((j + d) * 2)).drop (j * 2))
    (by rw [HD.out]; simp only [Nat.min_def]; split <;> omega)
    (fun _ => ⟨rfl, _, rfl, row_cells (row := row) (heap_grown (grown_new (r := none) (grown_drewN hg1.out) (grown_drew HG2.out) (Nat.le_refl _)) HG.out (by simp)) (j * 2) _ (by rw [HD.out, List.drop_take]; congr 1; omega)⟩) (by rw [HD.out, length_splice _ _ _ (by rw [HN.out]; have := hl.out; omega)]; have := hl.out; omega) H1D.out
  have HROW3 : Hid _ := hrow3
  have HG3 : Hid _ := hg3
  clear hrow3 hg3
  go_wp2
  go_region_law (refine step_copy_eq rfl (.tmp 78) (.tmp 81) rfl rfl _ _ (by simp [Act.eval, Act.put]) (by simp [Act.eval, Act.put]) hrun3 ?_)
  go_wp2
  go_ret
  have e := splice_grown (row.take (i * 2)) (zeros (m + d)) tail (src.take (m * 2)) ((row.take ((j + d) * 2)).drop (j * 2)) (by rw [length_zeros, HN.out, HD.out]; omega) (i * 2) ((i + m) * 2) HO.out.symm (by rw [HO.out, HN.out]; omega)
  refine ⟨_, rfl, own_mk HROW3.out hc1 hc2 ?_ ?_, grown_any (grown_new (grown_new (r := none) (grown_drewN hg1.out) (grown_drew HG2.out) (Nat.le_refl _)) HG3.out (Nat.le_refl _)), .inr ⟨_, rfl, Nat.le_refl _⟩⟩
  · rw [e, ← hl.out]
    simp only [List.length_append, length_zeros, HN.out, HD.out]
    omega
  · rw [e]
    have hlen : (row.take (i * 2) ++ src.take (m * 2) ++ (row.take ((j + d) * 2)).drop (j * 2)).length = (i + m + d) * 2 := by simp only [List.length_append, HO.out, HN.out, HD.out]; omega
    rw [← hlen, List.take_left]

set_option maxRecDepth 100000 in
set_option maxHeartbeats 1000000 in
theorem replace_ins_nil (w : World) (v : Value) (Q : Value → World → Prop) (hI : Calls Tryz.prog 184 #[.slice none 0 0, .int .i64 0, v] w fun e w' => ∃ v', e = .returned v' ∧ Q v' w') :
    Calls Tryz.prog 159 #[.slice none 0 0, .int .i64 0, .int .i64 0, v] w fun e w' => ∃ v', e = .returned v' ∧ Q v' w' := by
  go_enter Tryz.func159, Tryz.ntmps159
  go_wp2_with fail
  refine hI.mono ?_
  rintro e w' ⟨v', rfl, hP⟩
  have HP : Hid _ := hP
  clear hP
  go_wp2
  go_ret
  exact ⟨_, rfl, HP.out⟩
set_option maxRecDepth 100000 in
set_option maxHeartbeats 1000000 in
theorem replace_ins (w : World) (g n cap i : Nat) (v : Value) (Q : Value → World → Prop) (hin : i ≤ n) (hnc : n ≤ cap) (hI : Calls Tryz.prog 184 #[.slice (some ⟨g, 0, none⟩) n cap, .int .i64 i, v] w fun e w' => ∃ v', e = .returned v' ∧ Q v' w') :
    Calls Tryz.prog 159 #[.slice (some ⟨g, 0, none⟩) n cap, .int .i64 i, .int .i64 i, v] w fun e w' => ∃ v', e = .returned v' ∧ Q v' w' := by
  have hic : (i : Int) ≤ (cap : Int) := by omega
  by_cases hci : cap = i
  · subst hci
    go_enter Tryz.func159, Tryz.ntmps159
    go_wp2_with fail
    refine hI.mono ?_
    rintro e w' ⟨v', rfl, hP⟩
    have HP : Hid _ := hP
    clear hP
    go_wp2
    go_ret
    exact ⟨_, rfl, HP.out⟩
  · go_enter Tryz.func159, Tryz.ntmps159
    go_wp2_with fail
    refine hI.mono ?_
    rintro e w' ⟨v', rfl, hP⟩
    have HP : Hid _ := hP
    clear hP
    go_wp2
    go_ret
    exact ⟨_, rfl, HP.out⟩

/-- slices.Replace, wherever. -/
theorem replace_any (w : World) (s : Value) (n : Nat) (xs : List Value) (own : w.ownsRow 0 144 2 s n xs) (h1x : ∀ v ∈ xs, v.oneCell' = true) (i j : Nat) (hij : i ≤ j) (hj : j ≤ n)
    (h m c : Nat) (src : List Value) (hne : s.ownBlock ≠ some h) (hh : w.heap[h]? = some (.cells src.toArray 144 (0, 0))) (hm : m * 2 ≤ src.length) (h1 : ∀ v ∈ src.take (m * 2), v.oneCell' = true) (h0 : i = j → 0 < m) (hb : (n + m) * 16 ≤ 140737488355328) :
    Calls Tryz.prog 159 #[s, .int .i64 i, .int .i64 j, .slice (some ⟨h, 0, none⟩) m c] w fun e w' => ∃ v', e = .returned v' ∧ Placed w w' s v' (i + m + (n - j)) (xs.take (i * 2) ++ src.take (m * 2) ++ xs.drop (j * 2)) := by
  by_cases hij' : i = j
  · subst hij'
    have hI := insert_any w s n xs own h1x i hj h m c src hne hh hm h1 (h0 rfl) hb
    rw [show n + m = i + m + (n - i) by omega] at hI
    obtain ⟨hlen, ⟨rfl, rfl⟩ | ⟨g, cap, cur, rfl, _, hg, hnc, hcm, hcs, htk⟩⟩ := own
    · obtain rfl : i = 0 := by omega
      exact replace_ins_nil w _ _ hI
    · exact replace_ins w g n cap i _ _ hj hnc hI
  · obtain ⟨hlen, ⟨rfl, rfl⟩ | ⟨g, cap, cur, rfl, _, hg, hnc, hcm, hcs, htk⟩⟩ := own
    · omega
    · have hg' : w.heap[g]? = some (.cells cur.toList.toArray 144 (0, 0)) := by simpa using hg
      have hrl : cur.toList.length = cap * 2 := by simpa using hcs
      have hne' : h ≠ g := fun e => hne (by rw [e]; rfl)
      subst htk
      rw [List.take_take, show min (i * 2) (n * 2) = i * 2 by omega]
      by_cases hjn : j = n
      · subst hjn
        have hdr : (cur.toList.take (j * 2)).drop (j * 2) = [] := by apply List.drop_eq_nil_of_le; simp; omega
        rw [hdr, List.append_nil, show i + m + (j - j) = i + m by omega]
        by_cases hroom : i + m ≤ cap
        · exact replace_tail_room w g j cap i _ hg' (by omega) hnc hcm hrl h m c src hh hm h1 hroom
        · exact replace_tail_grow w g j cap i _ hg' (by omega) hnc hrl h m c src hh hm (by omega) (by omega)
      · obtain ⟨d, rfl⟩ : ∃ d, n = j + d := ⟨n - j, by omega⟩
        rw [show j + d - j = d by omega]
        by_cases hroom : i + m + d ≤ cap
        · by_cases hmj : i + m ≤ j
          · exact replace_close w g d cap i j _ hg' (by omega) (by omega) hnc hcm hrl h1x h m c src hh hm h1 hmj
          · exact replace_open w g d cap i j _ hg' (by omega) (by omega) hnc hcm hrl h1x h m c src hne' hh hm h1 (by omega) hroom
        · exact replace_grow w g d cap i j _ hg' (by omega) (by omega) hnc hcm hrl h1x h m c src hh hm h1 (by omega) (by omega)

end Go.Proofs.YtnflgkobedbemaaGreatDoor
