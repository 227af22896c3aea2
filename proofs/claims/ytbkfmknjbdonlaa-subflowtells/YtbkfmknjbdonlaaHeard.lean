import Derived.Test.YtbkfmknjbdonlaaAck1
import Derived.Test.YtbkfmknjbdonlaaAwake
namespace Go.Proofs.Ytbkfmknjbdonlaa
open Go.RowKit Go.Maps
set_option maxRecDepth 100000

theorem Fl.Ok.heard {F : Fl} (h : F.Ok) {now : Int} (h0 : 0 ≤ now) (h1 : now ≤ 18446744073709551615) (S : List Rg) : (F.heard now S).Ok := by
  refine ⟨?_, (h.rise.filter _).filter _, fun x hx => h.nums x (List.mem_filter.1 (List.mem_filter.1 hx).1).1, h.next0, ?_, ?_⟩
  · unfold Fl.heard Fl.hear
    simp only
    split
    · exact h.est
    · exact h.est.sample (by omega)
  · unfold Fl.heard Fl.hear
    simp only
    split
    · exact h.mark0
    · exact h0
  · unfold Fl.heard Fl.hear
    simp only
    split
    · exact h.mark1
    · exact h1
theorem told_tb {L S : List Rg} {nx : Int} (T : Told L nx S) (x : It) : tb S x = true ↔ mem L x.num ∧ x.num < nx := by rw [tb_iff T.fit, T.mem]
theorem mem_one (lo hi y : Int) : mem [(lo, hi)] y ↔ lo ≤ y ∧ y < hi := by simp [mem]
theorem lastHi_of {S : List Rg} (F : Fit S) {m : Int} (h1 : mem S m) (h2 : ∀ y, mem S y → y ≤ m) : lastHi S = m + 1 := by
  obtain ⟨r, hr, hm1, hm2⟩ := h1
  have hne : S ≠ [] := by rintro rfl; simp at hr
  obtain ⟨S', t, rfl⟩ : ∃ S' t, S = S' ++ [t] := ⟨S.dropLast, S.getLast hne, (List.dropLast_concat_getLast hne).symm⟩
  rw [lastHi_snoc]
  have hg := F.1 t (by simp)
  have h3 := h2 (t.2 - 1) ⟨t, by simp, by omega, by omega⟩
  have h4 : r.2 ≤ t.2 := by
    have hp := F.2
    rw [List.pairwise_append] at hp
    rcases List.mem_append.1 hr with h5 | h5
    · have := hp.2.2 r h5 t (by simp); omega
    · rw [List.mem_singleton.1 h5]; exact Int.le_refl _
  omega
theorem lastHi_none {S : List Rg} (F : Fit S) (h : ∀ y, ¬ mem S y) : lastHi S = 0 := by
  cases S with
  | nil => rfl
  | cons r R =>
    have := F.1 r (by simp)
    exact absurd ⟨r, by simp, Int.le_refl _, this.2.1⟩ (h r.1)
/-- Of items in a row the first one alone is wanted. -/
theorem rng_filter (it : Nat → It) (p : It → Bool) (i m : Nat) (h1 : p (it i) = true) (h2 : ∀ k, i < k → p (it k) = false) :
    ((List.range' i (m + 1)).map it).filter p = [it i] ∧ ((List.range' i (m + 1)).map it).filter (fun x => !p x) = (List.range' (i + 1) m).map it := by
  rw [List.range'_succ]
  simp only [List.map_cons, List.filter_cons, h1]
  constructor
  · simp only [if_true]
    congr 1
    rw [List.filter_eq_nil_iff]
    intro x hx
    obtain ⟨k, hk, rfl⟩ := List.mem_map.1 hx
    have := (List.mem_range'.1 hk)
    rw [h2 k (by omega)]
    simp
  · simp only [Bool.not_true, Bool.false_eq_true, if_false]
    rw [List.filter_eq_self]
    intro x hx
    obtain ⟨k, hk, rfl⟩ := List.mem_map.1 hx
    have := (List.mem_range'.1 hk)
    rw [h2 k (by omega)]
    rfl
theorem rng_none (it : Nat → It) (p : It → Bool) (i m : Nat) (h : ∀ k, i ≤ k → p (it k) = false) :
    ((List.range' i m).map it).filter p = [] ∧ ((List.range' i m).map it).filter (fun x => !p x) = (List.range' i m).map it := by
  constructor
  · rw [List.filter_eq_nil_iff]
    intro x hx
    obtain ⟨k, hk, rfl⟩ := List.mem_map.1 hx
    have := (List.mem_range'.1 hk)
    rw [h k (by omega)]
    simp
  · rw [List.filter_eq_self]
    intro x hx
    obtain ⟨k, hk, rfl⟩ := List.mem_map.1 hx
    have := (List.mem_range'.1 hk)
    rw [h k (by omega)]
    rfl
/-- An acknowledgement of one range, made at the call. -/
theorem ack_one {w : World} {p b g : Nat} {F : Fl} (h : FlowAt w p b g F) (ok : F.Ok) (lo hi : Int) (h0 : 0 ≤ lo) (h1 : hi ≤ 18446744073709551615)
    (hU : F.U.length * 40 ≤ 140737488355328) (hnx : F.next ≤ 4611686018427387904) (hat : ∀ x ∈ F.U, 0 ≤ x.at_) (now : Int) (hn0 : 0 ≤ now) (hn1 : now ≤ 18446744073709551615) :
    Calls Try.prog 27 #[.pointer (some ⟨p, 0, none⟩), .int .u64 now, .slice (some ⟨w.heap.size, 0, none⟩) 1 1] (w.alloc (.cells #[.int .u64 lo, .int .u64 hi] 58)) fun e w' => ∃ v1 v2 S, Told [(lo, hi)] F.next S ∧ e = .returned (.agg #[v1, v2, .bool (F.isCut S)]) ∧
      w'.ownsRow w.heap.size 60 5 v1 (F.ackd S).length (flatI (F.ackd S)) ∧ w'.ownsRow w.heap.size 60 5 v2 (F.lost S).length (flatI (F.lost S)) ∧ FlowAt w' p b g (F.heard now S) ∧ Only [p, b, g] w w' := by
  have hb := below_grow (Below.refl w.heap.size w) (.cells #[.int .u64 lo, .int .u64 hi] 58)
  have C : Cells (w.alloc (.cells #[.int .u64 lo, .int .u64 hi] 58)) (some ⟨w.heap.size, 0, none⟩) [(lo, hi)] := ⟨fun _ => ⟨_, rfl, fun j v hj => box_range w 58 [.int .u64 lo, .int .u64 hi] j v (by simpa [flat] using hj)⟩⟩
  refine (acked_any (h.kept hb) ok C (by simp) (fun r hr => by rw [List.mem_singleton.1 hr]; exact ⟨h0, h1⟩) hU hnx hat now hn0 hn1).mono ?_
  rintro e w' ⟨v1, v2, S, B, hT, rfl, hr1, _, hB, hr2, hf, ho⟩
  have hz := hb.size
  exact ⟨v1, v2, S, hT, rfl, own_mono hr1 hz, own_mono hr2 (Nat.le_trans hz hB), hf, (Only.of_below hb (Nat.le_refl _)).trans ho (by simp)⟩
end Go.Proofs.Ytbkfmknjbdonlaa
