import Derived.Test.YtapggdkofdlmlaaDuo
namespace Go.Proofs.Ytapggdkofdlmlaa
open Go.RowKit Go.Sort
set_option maxRecDepth 100000

/-- How far the time may lie from eight times ms behind so many samples. -/
def bnd : Nat → Int
  | 0 => 480007
  | i + 1 => bnd i - bnd i / 8
def dvn : Nat → Int
  | 0 => 160000
  | i + 1 => dvn i - dvn i / 4
theorem bnd_end : bnd 200 ≤ 7 := by decide +kernel
theorem dvn_end : dvn 200 ≤ 3 := by decide +kernel
theorem dvn_one : dvn 1 = 120000 := by decide +kernel
theorem dvn_nonneg : ∀ i, 0 ≤ dvn i
  | 0 => by decide
  | i + 1 => by have := dvn_nonneg i; simp only [dvn]; omega
theorem bnd_nonneg : ∀ i, 0 ≤ bnd i
  | 0 => by decide
  | i + 1 => by have := bnd_nonneg i; simp only [bnd]; omega
def Near (m : Int) (i : Nat) (E : Es) : Prop := E.t ≤ 8 * m + bnd i ∧ 8 * m - bnd i ≤ E.t
theorem Near.start {m : Int} (h0 : 0 ≤ m) (h1 : m ≤ 60000) {E : Es} (ok : E.Ok) : Near m 0 E := by
  have := ok.t0
  have := ok.t1
  unfold Near
  simp only [bnd]
  omega
theorem Near.next {m : Int} (h0 : 0 ≤ m) (h1 : m ≤ 60000) {i : Nat} {E : Es} (h : Near m i E) : Near m (i + 1) (E.sample m) := by
  obtain ⟨h2, h3⟩ := h
  have hb := bnd_nonneg i
  have em : min m 60000 = m := by omega
  unfold Near Es.sample
  simp only [bnd, em]
  generalize bnd i = B at *
  split
  · simp only; omega
  · simp only; omega
def Solo (m : Int) (i : Nat) (F : Es) : Prop := F.b = 0 ∧ ((i = 0 ∧ F.s = false) ∨ (0 < i ∧ F.s = true ∧ F.t = 8 * m ∧ 0 ≤ F.v ∧ F.v ≤ dvn i))
theorem Solo.next {m : Int} (h0 : 0 ≤ m) (h1 : m ≤ 60000) {i : Nat} {F : Es} (h : Solo m i F) : Solo m (i + 1) (F.sample m) ∧ (F.sample m).t = 8 * m := by
  obtain ⟨h2, ⟨rfl, h3⟩ | ⟨h3, h4, h5, h6, h7⟩⟩ := h
  · have em : min m 60000 = m := by omega
    unfold Solo Es.sample
    rw [if_neg (by rw [h3]; decide)]
    simp only [em]
    refine ⟨⟨h2, .inr ⟨by omega, by trivial, by trivial, by omega, ?_⟩⟩, by trivial⟩
    rw [show (0 + 1 : Nat) = 1 from rfl, dvn_one]
    omega
  · have em : min m 60000 = m := by omega
    unfold Solo Es.sample
    rw [if_pos h4]
    simp only [em, h5]
    have hd := dvn_nonneg i
    refine ⟨⟨h2, .inr ⟨by omega, by trivial, by omega, ?_, ?_⟩⟩, by omega⟩
    · omega
    · simp only [dvn]
      generalize dvn i = D at *
      omega
theorem Solo.rto {m : Int} (h0 : 0 ≤ m) (h1 : m ≤ 60000) {F : Es} (h : Solo m 200 F) : F.v / 4 = 0 ∧ max 200 m ≤ F.rto ∧ F.rto ≤ max 200 (m + 3) := by
  obtain ⟨h2, ⟨h3, _⟩ | ⟨h3, h4, h5, h6, h7⟩⟩ := h
  · cases h3
  · have hd := dvn_end
    unfold Es.rto Es.wait
    rw [if_pos h4, h2, h5]
    simp only [show (2 : Int) ^ (0 : Int).toNat = 1 from rfl]
    omega
set_option maxHeartbeats 2000000 in
theorem settles_any {w : World} {a : Option Addr} {n cap : Nat} {xs : List Int} {x : Int} (hC : CellsAt w a (xs.map (Value.int .u64))) (hn : xs.length = n) (hx : ∀ x ∈ xs, 0 ≤ x) (hm : n ≤ 140737488355328) (hx0 : 0 ≤ x) :
    Calls Try.prog 5 #[.slice a n cap, .int .u64 x] w fun e w' => e = .returned (.bool true) ∧ Below w.heap.size w w' := by
  have HC := hid hC
  have HN := hid hn
  have HX := hid hx
  obtain ⟨m, em⟩ : ∃ m : Int, min x 60000 = m := ⟨_, rfl⟩
  have HM0 : Hid (0 ≤ m) := by show _ ≤ _; omega
  have HM1 : Hid (m ≤ 60000) := by show _ ≤ _; omega
  clear hC hn hx hx0
  have HF := hid (one_new (Below.refl w.heap.size w))
  go_enter Try.func5, Try.ntmps5
  go_upto_region 2 with (first
    | (go_at_call 8; refine Calls.mono HF.out ?_; clear HF; rintro e w1 ⟨rfl, h1, _⟩; have HO := hid h1; have HF2 := hid (duo_new h1); clear h1)
    | (go_at_call 8; refine Calls.mono HF2.out ?_; clear HF2; rintro e w2 ⟨rfl, h1⟩; have HD := hid h1; clear h1))
  obtain ⟨g, hg⟩ : ∃ g, g = w.heap.size := ⟨_, rfl⟩
  obtain ⟨h, hh⟩ : ∃ h, h = w1.heap.size := ⟨_, rfl⟩
  rw [← hg, ← hh]
  rw [← hg, ← hh] at HD
  clear hg hh HO
  go_wp2
  go_loopw [28] (fun i wr => ∃ (k : Nat) (E : Es), k ≤ n ∧ i = .int .i64 k ∧ Duo w wr g h E Es.new) (fun i _ => n - (intOf i).toNat)
  case atStart => exact ⟨0, _, Nat.zero_le _, rfl, HD.out⟩
  case round =>
    obtain ⟨k, E, hk, rfl, hd⟩ := hrel
    have HD' := hid hd
    clear hd HD
    by_cases hlt : k < n
    · have hkc : k < xs.length := by rw [HN.out]; exact hlt
      obtain ⟨ga, oa, rfl, ca⟩ := HC.out k (by simpa using hkc)
      rw [List.getElem_map] at ca
      have hz0 := HX.out xs[k] (List.getElem_mem hkc)
      have l1 : (k : Int) < (n : Int) := by omega
      generalize xs[k] = z at *
      have ca2 := cell_kept HD'.out.l.bel ca
      have HK := hid hlt
      have HZ0 := hid hz0
      have hk2 : (k : Int) ≤ 140737488355328 := by omega
      clear ca hk hlt hkc hz0
      go_wp2_with (go_at_call 9; refine Calls.mono (HD'.out.sample HZ0.out) ?_; rintro e w3 ⟨rfl, h2⟩; have HD2 := hid h2; clear h2)
      go_roundw
      case rel => exact ⟨k + 1, _, HK.out, by first | go_num | (rw [Int.natCast_succ]), HD2.out⟩
      case measure =>
        simp [intOf]
        have := HK.out
        omega
    · have e1 : decide ((k : Int) < (n : Int)) = false := decide_eq_false (by omega)
      have e2 : decide (k < n) = false := decide_eq_false hlt
      clear hlt hk
      go_wp2
      clear e1 e2
      go_loopw [9] (fun i wr => ∃ (j : Nat) (E F : Es), j ≤ 200 ∧ i = .int .i64 j ∧ Duo w wr g h E F ∧ Near m j E ∧ Solo m j F) (fun i _ => 200 - (intOf i).toNat)
      case atStart => exact ⟨0, _, _, by decide, rfl, HD'.out, Near.start HM0.out HM1.out HD'.out.l.ok, rfl, .inl ⟨rfl, rfl⟩⟩
      case round =>
        obtain ⟨j, E, F, hj, rfl, hd, hn, hs⟩ := hrel
        have HD2 := hid hd
        have HNE := hid hn
        have HSO := hid hs
        clear hd HD' hn hs
        by_cases hlt : j < 200
        · obtain ⟨hs2, ht⟩ := Solo.next HM0.out HM1.out HSO.out
          have HS2 := hid hs2
          have HN2 := hid (Near.next HM0.out HM1.out HNE.out)
          have ht8 : (F.sample m).t / 8 = m := by rw [ht]; omega
          have HJ := hid hlt
          have l1 : (j : Int) < 200 := by omega
          clear hs2 ht hj hlt
          go_wp2_with (first
            | (go_at_call_of 9 (Value.pointer (some ⟨g, 0, none⟩)); refine Calls.mono (HD2.out.sample HM0.out) ?_; rintro e w3 ⟨rfl, h2⟩; have HD3 := hid h2; clear h2)
            | (go_at_call_of 9 (Value.pointer (some ⟨h, 0, none⟩)); refine Calls.mono (HD3.out.turn.sample HM0.out) ?_; rintro e w4 ⟨rfl, h2⟩; have HD4 := hid h2; clear h2)
            | (go_at_call 10; refine Calls.mono (HD4.out.srtt) ?_; rintro e w5 ⟨rfl, h2⟩; rw [ht8]; have HD5 := hid h2; clear h2))
          go_roundw
          case rel => exact ⟨j + 1, _, _, HJ.out, by first | go_num | (rw [Int.natCast_succ]), HD5.out.turn, HN2.out, HS2.out⟩
          case measure =>
            simp [intOf]
            have := HJ.out
            omega
        · obtain rfl : j = 200 := by omega
          obtain ⟨r0, r1, r2⟩ := Solo.rto HM0.out HM1.out HSO.out
          obtain ⟨n1, n2⟩ := HNE.out
          have hb := bnd_end
          have m0 := HM0.out
          have m1 := HM1.out
          have q1 : decide (max 200 m ≤ F.rto) = true := decide_eq_true r1
          have q2 : decide (F.rto ≤ max 200 (m + 3)) = true := decide_eq_true r2
          have q3 : decide (E.t / 8 ≤ m + 1) = true := decide_eq_true (by omega)
          have q4 : decide (m ≤ E.t / 8 + 1) = true := decide_eq_true (by omega)
          have w1 : IntKind.u64.wrap (m + 3) = m + 3 := by rw [IntKind.wrap_u64]; omega
          have w2 : IntKind.u64.wrap (m + 1) = m + 1 := by rw [IntKind.wrap_u64]; omega
          have t0 := HD2.out.l.ok.t0
          have t1 := HD2.out.l.ok.t1
          have w3 : IntKind.u64.wrap (E.t / 8 + 1) = E.t / 8 + 1 := by rw [IntKind.wrap_u64]; omega
          clear n1 n2 hb m0 m1 t0 t1 hlt hj r1 r2
          go_wp2_with (first
            | (go_at_call 10; refine Calls.mono (HD2.out.srtt) ?_; rintro e w3 ⟨rfl, h2⟩; have HD3 := hid h2; clear h2)
            | (go_at_call 11; refine Calls.mono (HD3.out.turn.var) ?_; rintro e w4 ⟨rfl, h2⟩; rw [r0]; have HD4 := hid h2; clear h2)
            | (go_at_call 12; refine Calls.mono (HD4.out.rto) ?_; rintro e w5 ⟨rfl, h2⟩; clear HD4; have HD4 := hid h2; clear h2))
          go_ret
          exact ⟨rfl, HD4.out.l.bel⟩
end Go.Proofs.Ytapggdkofdlmlaa
