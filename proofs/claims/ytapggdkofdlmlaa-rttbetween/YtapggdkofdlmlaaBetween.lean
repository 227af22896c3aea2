import Derived.Test.YtapggdkofdlmlaaDuo
namespace Go.Proofs.Ytapggdkofdlmlaa
open Go.RowKit Go.Sort
set_option maxRecDepth 100000

/-- What is kept between the samples: the time lies between the least and the greatest. -/
def Btw (lo hi : Int) (E : Es) : Prop := 0 ≤ lo ∧ lo ≤ 60000 ∧ 0 ≤ hi ∧ hi ≤ 60000 ∧ ((E.s = true ∧ 8 * lo ≤ E.t ∧ E.t ≤ 8 * hi + 7) ∨ (E.s = false ∧ lo = 60000 ∧ hi = 0))
theorem btw_sample {lo hi : Int} {E : Es} (h : Btw lo hi E) {x : Int} (h0 : 0 ≤ x) : Btw (min lo x) (max hi (min x 60000)) (E.sample x) ∧ (E.sample x).s = true := by
  obtain ⟨a, b, c, d, ⟨e, f, g⟩ | ⟨e, f, g⟩⟩ := h
  · unfold Es.sample
    rw [if_pos e]
    exact ⟨⟨by omega, by omega, by omega, by omega, .inl ⟨rfl, by simp only; omega, by simp only; omega⟩⟩, rfl⟩
  · unfold Es.sample
    rw [if_neg (by rw [e]; decide)]
    exact ⟨⟨by omega, by omega, by omega, by omega, .inl ⟨rfl, by simp only; omega, by simp only; omega⟩⟩, rfl⟩
set_option maxHeartbeats 1000000 in
theorem between_any {w : World} {a : Option Addr} {n cap : Nat} {xs : List Int} (hC : CellsAt w a (xs.map (Value.int .u64))) (hn : xs.length = n) (hx : ∀ x ∈ xs, 0 ≤ x) (hm : n ≤ 140737488355328) :
    Calls Try.prog 3 #[.slice a n cap] w fun e w' => e = .returned (.bool true) ∧ Below w.heap.size w w' := by
  have HC := hid hC
  have HN := hid hn
  have HX := hid hx
  clear hC hn hx
  have HF := hid (one_new (Below.refl w.heap.size w))
  go_enter Try.func3, Try.ntmps3
  go_upto_region 2 with (go_at_call 8; refine Calls.mono HF.out ?_; rintro e w1 ⟨rfl, h1, _⟩; have HO := hid h1; clear h1)
  clear HF
  obtain ⟨g, hg⟩ : ∃ g, g = w.heap.size := ⟨_, rfl⟩
  rw [← hg]
  rw [← hg] at HO
  clear hg
  go_wp2
  go_loopw [4, 5, 15] (fun lo hi i wr => ∃ (k : Nat) (l h : Int) (E : Es), k ≤ n ∧ i = .int .i64 k ∧ lo = .int .u64 l ∧ hi = .int .u64 h ∧ One w wr g E ∧ Btw l h E) (fun _ _ i _ => n - (intOf i).toNat)
  case atStart => exact ⟨0, 60000, 0, _, Nat.zero_le _, rfl, rfl, rfl, HO.out, by decide, by decide, by decide, by decide, .inr ⟨rfl, rfl, rfl⟩⟩
  case round =>
    obtain ⟨k, l, h, E, hk, rfl, rfl, rfl, ho, hbt⟩ := hrel
    have HO' := hid ho
    have HT := hid hbt
    clear ho hbt HO
    by_cases hlt : k < n
    · have hkc : k < xs.length := by rw [HN.out]; exact hlt
      obtain ⟨ga, oa, rfl, ca⟩ := HC.out k (by simpa using hkc)
      rw [List.getElem_map] at ca
      have hx0 := HX.out xs[k] (List.getElem_mem hkc)
      have l1 : (k : Int) < (n : Int) := by omega
      generalize xs[k] = x at *
      have ca2 := cell_kept HO'.out.bel ca
      obtain ⟨hT2, hs⟩ := btw_sample HT.out hx0
      have HT2 := hid hT2
      have HK := hid hlt
      have HX0 := hid hx0
      have hk2 : (k : Int) ≤ 140737488355328 := by omega
      clear hT2 ca hk hlt hkc hx0
      have hsd : (!(E.sample x).s) = false := by rw [hs]; rfl
      have q1 : decide ((E.sample x).t / 8 < min l x) = false := by
        have := HT2.out
        obtain ⟨a, b, c, d, ⟨e, f, g⟩ | ⟨e, f, g⟩⟩ := this
        · exact decide_eq_false (by omega)
        · rw [hs] at e; cases e
      have q2 : decide (max h (min x 60000) < (E.sample x).t / 8) = false := by
        have := HT2.out
        obtain ⟨a, b, c, d, ⟨e, f, g⟩ | ⟨e, f, g⟩⟩ := this
        · exact decide_eq_false (by omega)
        · rw [hs] at e; cases e
      go_wp2_with (first
        | (go_at_call 9; refine Calls.mono (HO'.out.sample HX0.out) ?_; rintro e w2 ⟨rfl, h2, _⟩; have HO2 := hid h2; clear h2)
        | (go_at_call 10; refine Calls.mono (srtt_any HO2.out.at_ HO2.out.ok) ?_; rintro e w3 ⟨rfl, hb⟩; rw [hs]; have HO3 := hid (HO2.out.kept hb); clear hb))
      go_roundw
      case rel => exact ⟨k + 1, _, _, _, HK.out, by first | go_num | (rw [Int.natCast_succ]), rfl, rfl, HO3.out, HT2.out⟩
      case measure =>
        simp [intOf]
        have := HK.out
        omega
    · have e1 : decide ((k : Int) < (n : Int)) = false := decide_eq_false (by omega)
      have e2 : decide (k < n) = false := decide_eq_false hlt
      clear hlt hk
      go_wp2
      go_ret
      exact ⟨rfl, HO'.out.bel⟩
end Go.Proofs.Ytapggdkofdlmlaa
