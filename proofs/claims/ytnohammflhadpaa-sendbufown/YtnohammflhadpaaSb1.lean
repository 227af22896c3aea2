import Derived.Test.YtnohammflhadpaaSb0
import Derived.Shelf.Abstract
namespace Go.Proofs.Ytnohammflhadpaa
open Go.RowKit
set_option maxRecDepth 100000

theorem nan_any (w : World) (x : Int) : Calls Try.prog 84 #[.int .u64 x] w fun e w' => e = .returned (.bool false) ∧ w' = w := by
  go_enter Try.func84, Try.ntmps84
  go_wp2
  go_ret
  exact ⟨by first | rfl | simp, rfl⟩
def cmpI (x y : Int) : Int := if x < y then -1 else if y < x then 1 else 0
set_option maxHeartbeats 1000000 in
theorem cmp_any (w : World) (x y : Int) : Calls Try.prog 71 #[.int .u64 x, .int .u64 y] w fun e w' => e = .returned (.int .i64 (cmpI x y)) ∧ w' = w := by
  have h1 := nan_any w x
  have h2 := nan_any w y
  unfold cmpI
  by_cases c1 : x < y
  · rw [if_pos c1]
    go_enter Try.func71, Try.ntmps71
    go_wp2_with (go_at_call 84; first | (refine h1.mono ?_; rintro e w1 ⟨rfl, rfl⟩) | (refine h2.mono ?_; rintro e w1 ⟨rfl, rfl⟩))
    go_ret
    exact ⟨rfl, rfl⟩
  · rw [if_neg c1]
    by_cases c2 : y < x
    · rw [if_pos c2]
      go_enter Try.func71, Try.ntmps71
      go_wp2_with (go_at_call 84; first | (refine h1.mono ?_; rintro e w1 ⟨rfl, rfl⟩) | (refine h2.mono ?_; rintro e w1 ⟨rfl, rfl⟩))
      go_ret
      exact ⟨rfl, rfl⟩
    · rw [if_neg c2]
      go_enter Try.func71, Try.ntmps71
      go_wp2_with (go_at_call 84; first | (refine h1.mono ?_; rintro e w1 ⟨rfl, rfl⟩) | (refine h2.mono ?_; rintro e w1 ⟨rfl, rfl⟩))
      go_ret
      exact ⟨rfl, rfl⟩
theorem fld780 (w : World) (c : Ck) : (Instr.field 78 (.agg c.cells.toArray) 0).run Try.prog w = .ok (.int .u64 c.off) w := by kernel_rfl
set_option maxHeartbeats 1000000 in
theorem at1_any (w : World) (c : Ck) (y : Int) : Calls Try.prog 70 #[.agg c.cells.toArray, .int .u64 y] w fun e w' => e = .returned (.int .i64 (cmpI c.off y)) ∧ Below w.heap.size w w' := by
  have h := fun w => cmp_any w c.off y
  unfold Ck.cells
  go_enter Try.func70, Try.ntmps70
  go_wp2_with (go_at_call 71; refine (h _).mono ?_; rintro e w1 ⟨rfl, rfl⟩)
  go_ret
  exact ⟨rfl, (Below.refl _ _).alloc (Nat.le_refl _) _⟩
/-- A path's bit. -/
def bit (x : Int) : Int := if x < 0 ∨ 8 ≤ x then 0 else 2 ^ x.toNat
set_option maxHeartbeats 1000000 in
theorem only_any (w : World) (x : Int) : Calls Try.prog 41 #[.int .i64 x] w fun e w' => e = .returned (.int .u8 (bit x)) ∧ w' = w := by
  by_cases c : x < 0 ∨ 8 ≤ x
  · unfold bit
    rw [if_pos c]
    go_enter Try.func41, Try.ntmps41
    go_wp2
    all_goals go_ret
    all_goals exact ⟨rfl, rfl⟩
  · have hx : x = 0 ∨ x = 1 ∨ x = 2 ∨ x = 3 ∨ x = 4 ∨ x = 5 ∨ x = 6 ∨ x = 7 := by omega
    rcases hx with rfl | rfl | rfl | rfl | rfl | rfl | rfl | rfl <;> (go_enter Try.func41, Try.ntmps41; go_wp2; go_ret; exact ⟨rfl, rfl⟩)
theorem CksAt.cell {w : World} {a : Option Addr} {L : List Ck} (h : CksAt w a L) {m : Nat} (hm : m < L.length) : ∃ g o, a = some ⟨g, o, none⟩ ∧ w.cell? ⟨g, o + m * 6, none⟩ = some (.int .u64 L[m].off) ∧ w.cell? ⟨g, o + m * 6 + 1, none⟩ = some (.slice L[m].a L[m].bs.length L[m].cap) ∧ w.cell? ⟨g, o + m * 6 + 2, none⟩ = some (.bool L[m].fin) ∧ w.cell? ⟨g, o + m * 6 + 3, none⟩ = some (.int .u8 L[m].on) ∧ w.cell? ⟨g, o + m * 6 + 4, none⟩ = some (.bool L[m].out) ∧ w.cell? ⟨g, o + m * 6 + 5, none⟩ = some (.bool L[m].held) := by
  obtain ⟨g, o, e, k⟩ := h m hm
  exact ⟨g, o, e, k 0 _ rfl, k 1 _ rfl, k 2 _ rfl, k 3 _ rfl, k 4 _ rfl, k 5 _ rfl⟩
theorem cmp_lt {x y : Int} (h : x < y) : cmpI x y = -1 := by unfold cmpI; rw [if_pos h]
theorem cmp_ge {x y : Int} (h : ¬ x < y) : ¬ cmpI x y < 0 ∧ (cmpI x y = 0 ↔ x = y) := by
  unfold cmpI
  rw [if_neg h]
  by_cases h2 : y < x
  · rw [if_pos h2]; omega
  · rw [if_neg h2]; omega
def BsfAns (w : World) (L : List Ck) (n : Nat) (x : Int) (e : Ending) (w' : World) : Prop := ∃ (k : Nat) (b : Bool), e = .returned (.tuple #[.int .i64 k, .bool b]) ∧ k ≤ n ∧ (∀ t (ht : t < L.length), t < k → L[t].off < x) ∧ (∀ t (ht : t < L.length), k ≤ t → x ≤ L[t].off) ∧ (b = true ↔ ∃ h : k < L.length, L[k].off = x) ∧ Below w.heap.size w w'
set_option maxHeartbeats 4000000 in
theorem bsf_any {w : World} {a : Option Addr} {L : List Ck} (hA : CksAt w a L) (n cap : Nat) (hn : L.length = n) (hsz : n ≤ 65537) (x : Int) (hso : L.Pairwise (fun c d => c.off < d.off)) :
    Calls Try.prog 69 #[.slice a n cap, .int .u64 x, .func (.func 70) #[] #[]] w fun e w' => BsfAns w L n x e w' := by
  have HA := hid hA
  have HN := hid hn
  have HSO : Hid (∀ s t (hs : s < L.length) (ht : t < L.length), s < t → L[s].off < L[t].off) := fun s t hs ht h => List.pairwise_iff_getElem.1 hso s t hs ht h
  have hsi : (n : Int) ≤ 65537 := by omega
  clear hA hn hso
  go_enter Try.func69, Try.ntmps69
  go_wp2
  go_loopg [9, 10] n (fun kx s9 s10 wr => ∃ (lo hi : Nat), s9 = .int .i64 lo ∧ s10 = .int .i64 hi ∧ lo ≤ hi ∧ hi ≤ n ∧ hi - lo ≤ kx ∧ Hid (Below w.heap.size w wr) ∧
    Hid ((∀ t (ht : t < L.length), t < lo → L[t].off < x) ∧ (∀ t (ht : t < L.length), hi ≤ t → x ≤ L[t].off)))
  case atStart => exact ⟨0, n, rfl, rfl, Nat.zero_le _, Nat.le_refl _, by omega, hid (Below.refl _ _), hid ⟨fun t _ ht => absurd ht (Nat.not_lt_zero _), fun t h1 h2 => by have := HN.out; omega⟩⟩
  case round =>
    obtain ⟨lo, hi, rfl, rfl, hlh, hin, hg, HB, I⟩ := hrel
    by_cases hlt : lo < hi
    · obtain ⟨m, hm⟩ : ∃ m, (lo + hi) / 2 = m := ⟨_, rfl⟩
      have hmi : ((lo : Int) + (hi : Int)) / 2 = (m : Int) := by omega
      have hml : m < L.length := by have := HN.out; omega
      obtain ⟨g, o, rfl, q0, q1, q2, q3, q4, q5⟩ := (HA.out.kept HB.out).cell hml
      have hmn : (m : Int) < n := by omega
      have HC := fun w => hid (at1_any w L[m] x)
      have HB1 : Hid (∀ w', Below wr.heap.size wr w' → Below w.heap.size w w') := fun w' h => HB.out.trans (h.mono HB.out.size)
      by_cases hx : L[m].off < x
      · rw [cmp_lt hx] at HC
        have I2 : Hid ((∀ t (ht : t < L.length), t < m + 1 → L[t].off < x) ∧ (∀ t (ht : t < L.length), hi ≤ t → x ≤ L[t].off)) := ⟨fun t ht h => by
          by_cases e : t = m
          · subst e; exact hx
          · exact Int.lt_trans (HSO.out t m ht hml (by omega)) hx, I.out.2⟩
        clear hx I hm
        go_wp2_with (go_at_call 70; refine (HC _).out.mono ?_; rintro e w' ⟨rfl, hb⟩; have HB2 := hid (HB1.out _ hb); clear hb)
        go_roundg (hi - (m + 1))
        case measure => omega
        case rel => exact ⟨m + 1, hi, by go_num, rfl, by omega, hin, Nat.le_refl _, HB2, I2⟩
      · have hc := cmp_ge hx
        have hc1 := hc.1
        have I2 : Hid ((∀ t (ht : t < L.length), t < lo → L[t].off < x) ∧ (∀ t (ht : t < L.length), m ≤ t → x ≤ L[t].off)) := ⟨I.out.1, fun t ht h => by
          by_cases e : t = m
          · subst e; omega
          · have := HSO.out m t hml ht (by omega); omega⟩
        generalize cmpI L[m].off x = cv at *
        clear hx I hm hc
        go_wp2_with (go_at_call 70; refine (HC _).out.mono ?_; rintro e w' ⟨rfl, hb⟩; have HB2 := hid (HB1.out _ hb); clear hb)
        go_roundg (m - lo)
        case measure => omega
        case rel => exact ⟨lo, m, rfl, rfl, by omega, by omega, Nat.le_refl _, HB2, I2⟩
    · obtain rfl : hi = lo := by omega
      by_cases hE : hi < n
      · have hml : hi < L.length := by have := HN.out; omega
        obtain ⟨g, o, rfl, q0, q1, q2, q3, q4, q5⟩ := (HA.out.kept HB.out).cell hml
        have hmn : (hi : Int) < n := by omega
        have HC := fun w => hid (at1_any w L[hi] x)
        have HB1 : Hid (∀ w', Below wr.heap.size wr w' → Below w.heap.size w w') := fun w' h => HB.out.trans (h.mono HB.out.size)
        have hge := I.out.2 hi hml (Nat.le_refl _)
        have HI := hid (cmp_ge (show ¬ L[hi].off < x by omega)).2
        generalize hcv : cmpI L[hi].off x = cv at HC HI
        clear hcv hge hlt
        go_wp2_with (go_at_call 70; refine (HC _).out.mono ?_; rintro e w' ⟨rfl, hb⟩; have HB2 := hid (HB1.out _ hb); clear hb)
        go_ret2
        exact ⟨hi, decide (cv = 0), by first | rfl | simp, hin, I.out.1, I.out.2, ⟨fun e => ⟨hml, HI.out.1 (by simpa using e)⟩, fun ⟨_, e⟩ => by simpa using HI.out.2 e⟩, HB2.out⟩
      · have hmn : ¬ (hi : Int) < n := by omega
        clear hlt
        go_wp2
        go_ret2
        exact ⟨hi, false, by first | rfl | simp, hin, I.out.1, I.out.2, ⟨(fun e => absurd e (by decide)), fun ⟨h, _⟩ => by have := HN.out; omega⟩, HB.out⟩
/-- Where a chunk stands. -/
def Sb.find (F : Sb) (off : Int) (k : Nat) : Prop := ∃ h : k < F.L.length, (F.L[k]'h).off = off
def AtAns (w : World) (F : Sb) (a : Option Addr) (off : Int) (e : Ending) (w' : World) : Prop := Below w.heap.size w w' ∧ ((e = .returned (.pointer none) ∧ ∀ k, ¬ F.find off k) ∨ ∃ g o k, a = some ⟨g, o, none⟩ ∧ e = .returned (.pointer (some ⟨g, o + k * 6, none⟩)) ∧ F.find off k)
set_option maxHeartbeats 4000000 in
theorem at_any {w : World} {p : Nat} {F : Sb} {a : Option Addr} {cap : Nat} (h : SbR w p F a cap) (off : Int) :
    Calls Try.prog 40 #[.pointer (some ⟨p, 0, none⟩), .int .u64 off] w fun e w' => AtAns w F a off e w' := by
  obtain ⟨N, hN⟩ : ∃ N, F.L.length = N := ⟨_, rfl⟩
  have HS := hid (bsf_any h.ck N cap hN (by have := h.ok.nl; omega) off h.ok.so)
  have HSO : Hid (∀ s t (hs : s < F.L.length) (ht : t < F.L.length), s < t → F.L[s].off < F.L[t].off) := fun s t hs ht e => List.pairwise_iff_getElem.1 h.ok.so s t hs ht e
  have HA := hid h.ck
  have c7 := h.row.cell 7 _ rfl
  have HC : Hid (∀ w', Below w.heap.size w w' → w'.cell? ⟨p, 7, none⟩ = some (.slice a N cap)) := fun w' hb => by have := (h.kept hb).row.cell 7 _ rfl; rwa [hN] at this
  have hnl : (N : Int) ≤ 65537 := by have := h.ok.nl; omega
  rw [hN] at c7
  have HN := hid hN
  clear h hN
  go_enter Try.func40, Try.ntmps40
  go_upto_if 17 with (go_at_call 69; refine HS.out.mono ?_; rintro e w1 ⟨k, b, rfl, hk, hlo, hhi, hb, hbe⟩; have HR := hid (And.intro hk (And.intro hlo (And.intro hhi (And.intro hb hbe)))); have d7 := HC.out w1 hbe; clear hlo hhi hb hbe)
  cases b with
  | false =>
    go_wp2
    go_ret
    refine ⟨HR.out.2.2.2.2, .inl ⟨rfl, fun t ⟨ht, e⟩ => ?_⟩⟩
    have h1 := HR.out.2.2.2.1
    by_cases c : t < k
    · have := HR.out.2.1 t ht c; omega
    · by_cases c2 : t = k
      · subst c2
        have := h1.2 ⟨ht, e⟩
        cases this
      · have h2 := HSO.out k t (by omega) ht (by omega)
        have h3 := HR.out.2.2.1 k (by omega) (Nat.le_refl _)
        omega
  | true =>
    obtain ⟨hk2, he⟩ := HR.out.2.2.2.1.1 rfl
    obtain ⟨g, o, rfl⟩ : ∃ g o, a = some ⟨g, o, none⟩ := by obtain ⟨g, o, e, _⟩ := HA.out.cell hk2; exact ⟨g, o, e⟩
    have hkl : (k : Int) < (N : Int) := by have := HN.out; omega
    clear hk2 he
    go_wp2
    go_ret
    exact ⟨HR.out.2.2.2.2, .inr ⟨g, o, k, rfl, rfl, HR.out.2.2.2.1.1 (by first | rfl | trivial)⟩⟩
end Go.Proofs.Ytnohammflhadpaa
