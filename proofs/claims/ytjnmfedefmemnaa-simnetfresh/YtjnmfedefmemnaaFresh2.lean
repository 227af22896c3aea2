import Derived.Test.YtjnmfedefmemnaaFresh0
namespace Go.Proofs.Ytjnmfedefmemnaa
open Go.RowKit
set_option maxRecDepth 100000

/-- A slice over the front of a block of bytes. -/
def SlR (w : World) (x : Value) (f : List (BitVec 8)) : Prop := ∃ b cap cur, x = .slice (some ⟨b, 0, none⟩) f.length cap ∧ Row w b cur 5 ∧ cur.take f.length = bcells f
structure SlRs (w : World) (ms : List Value) (fs : List (List (BitVec 8))) : Prop where
  len : ms.length = fs.length
  each : ∀ (j : Nat) (x : Value) (f : List (BitVec 8)), ms[j]? = some x → fs[j]? = some f → SlR w x f
theorem SlR.mono {w w' : World} {x : Value} {f : List (BitVec 8)} (h : SlR w x f) (hk : ∀ b cur, Row w b cur 5 → Row w' b cur 5) : SlR w' x f := by
  obtain ⟨b, cap, cur, e, r, t⟩ := h
  exact ⟨b, cap, cur, e, hk b cur r, t⟩
theorem SlRs.mono {w w' : World} {ms : List Value} {fs : List (List (BitVec 8))} (h : SlRs w ms fs) (hk : ∀ b cur, Row w b cur 5 → Row w' b cur 5) : SlRs w' ms fs :=
  ⟨h.len, fun j x f h1 h2 => (h.each j x f h1 h2).mono hk⟩
theorem SlRs.snoc {w : World} {ms : List Value} {fs : List (List (BitVec 8))} (h : SlRs w ms fs) {x : Value} {f : List (BitVec 8)} (hx : SlR w x f) : SlRs w (ms ++ [x]) (fs ++ [f]) :=
  ⟨by simp [h.len], fun j y g h1 h2 => by
    by_cases hj : j < ms.length
    · rw [List.getElem?_append_left hj] at h1
      rw [List.getElem?_append_left (by rw [← h.len]; exact hj)] at h2
      exact h.each j y g h1 h2
    · rw [List.getElem?_append_right (by omega)] at h1
      rw [List.getElem?_append_right (by rw [← h.len]; omega), ← h.len] at h2
      have : j - ms.length = 0 := by
        have := (List.getElem?_eq_some_iff.1 h1).1
        simp at this
        omega
      rw [this] at h1 h2
      simp at h1 h2
      subst h1
      subst h2
      exact hx⟩
theorem SlR.one {w : World} {x : Value} {f : List (BitVec 8)} (h : SlR w x f) : x.oneCell' = true := by
  obtain ⟨b, cap, cur, e, r, t⟩ := h
  rw [e]; rfl
theorem SlR.cell {w : World} {x : Value} {f : List (BitVec 8)} (h : SlR w x f) : ∃ b cap, x = .slice (some ⟨b, 0, none⟩) f.length cap ∧ ∀ k (hk : k < f.length), w.cell? ⟨b, k, none⟩ = some (.int .u8 (ub f[k])) := by
  obtain ⟨b, cap, cur, e, r, t⟩ := h
  refine ⟨b, cap, e, fun k hk => r.cell k _ ?_⟩
  have e2 : (cur.take f.length)[k]? = (bcells f)[k]? := by rw [t]
  rw [List.getElem?_take_of_lt hk, bcells_get hk] at e2
  exact e2
theorem slR_of_owns {w : World} {H L : Nat} {v : Value} {y : List (BitVec 8)} (hL : y.length = L) (h0 : 0 < L) (h : w.ownsRow H 5 1 v L (bcells y)) : SlR w v y := by
  obtain ⟨_, ⟨_, h1⟩ | ⟨g, cap, cur, rfl, hb, hh, hc, _, hs, ht⟩⟩ := h
  · omega
  · refine ⟨g, cap, cur.toList, by rw [hL], ⟨by simpa using hh⟩, ?_⟩
    rw [hL]
    simpa using ht
/-- What stands behind r rounds: marks, and sixty-four others behind them. -/
def mm (ff : List (List (BitVec 8))) (r : Nat) : List (List (BitVec 8)) := (List.range r).map fun j => List.replicate (ff.getD j []).length (bt (10 + j)) ++ List.replicate 64 (bt (100 + j))
theorem mm_len (ff : List (List (BitVec 8))) (r : Nat) : (mm ff r).length = r := by simp [mm]
theorem mm_succ {ff : List (List (BitVec 8))} {r : Nat} (h : r < ff.length) : mm ff (r + 1) = mm ff r ++ [List.replicate ff[r].length (bt (10 + r)) ++ List.replicate 64 (bt (100 + r))] := by
  unfold mm
  rw [List.range_succ, List.map_append]
  simp [h]
theorem mm_get {ff : List (List (BitVec 8))} {r j : Nat} (hj : j < r) (h : j < ff.length) : (mm ff r)[j]? = some (List.replicate ff[j].length (bt (10 + j)) ++ List.replicate 64 (bt (100 + j))) := by
  simp [mm, hj, h]
/-- Where m stands behind k marks: the block itself, or a row of its own. -/
def MAt (H : Nat) (w : World) (a r k : Nat) (x : List (BitVec 8)) (mv : Value) : Prop :=
  (k = 0 ∧ mv = .slice (some ⟨a, 0, none⟩) x.length x.length ∧ Row w a (bcells x) 5) ∨ (0 < k ∧ w.ownsRow H 5 1 mv (x.length + k) (bcells (x ++ List.replicate k (bt (100 + r)))))
theorem owns_le {w : World} {base base' e size n : Nat} {v : Value} {xs : List Value} (h : w.ownsRow base e size v n xs) (hb : base' ≤ base) : w.ownsRow base' e size v n xs := by
  obtain ⟨h1, h2 | ⟨g, cap, cur, e, hb', rest⟩⟩ := h
  · exact ⟨h1, .inl h2⟩
  · exact ⟨h1, .inr ⟨g, cap, cur, e, Nat.le_trans hb hb', rest⟩⟩
theorem append_m {H : Nat} {w0 w : World} {a r k : Nat} {x : List (BitVec 8)} {mv : Value} (hH : H ≤ w.heap.size) (hb : Below H w0 w) (h : MAt H w a r k x mv) (hk : k < 64) (hx : x.length ≤ 140737488351232) (hr : r < 5) (ty : TypeId) :
    ∃ v' w', (Builtin.append_ #[22, 22] ty #[mv, .slice (some ⟨w.heap.size, 0, none⟩) 1 1]).run Try.prog (w.alloc (.cells #[.int .u8 (100 + (r : Int))] 5)) = .ok v' w' ∧ MAt H w' a r (k + 1) x v' ∧ Below H w0 w' := by
  obtain ⟨i, i1, i2, i3, i4⟩ := info5
  have hal := below_grow (Below.refl w.heap.size w) (.cells #[.int .u8 (100 + (r : Int))] 5)
  have hnew : ∀ j u, [Value.int .u8 (100 + (r : Int))][j]? = some u → (w.alloc (.cells #[.int .u8 (100 + (r : Int))] 5)).cell? ((⟨w.heap.size, 0, none⟩ : Addr).add j) = some u := by
    intro j u hu
    match j, hu with
    | 0, hu => simp at hu; subst hu; rw [Addr.add_mid]; exact (Row.new w [Value.int .u8 (100 + (r : Int))] 5).cell 0 _ rfl
  have hone : ∀ u ∈ [Value.int .u8 (100 + (r : Int))], u.oneCell' = true := by simp [Value.oneCell']
  have hub : Value.int .u8 (100 + (r : Int)) = bv (bt (100 + r)) := by
    unfold bv
    rw [ub_bt _ (by omega)]
    simp
  have hcat : bcells (x ++ List.replicate k (bt (100 + r))) ++ [Value.int .u8 (100 + (r : Int))] = bcells (x ++ List.replicate (k + 1) (bt (100 + r))) := by
    rw [hub]
    simp [bcells, List.replicate_succ', List.append_assoc]
  have hbb : Below H w0 (w.alloc (.cells #[.int .u8 (100 + (r : Int))] 5)) := hb.trans (hal.mono hH)
  rcases h with ⟨rfl, rfl, R⟩ | ⟨h0, ho⟩
  · obtain ⟨v', w', hr', ho', hg⟩ := run_append_arg_grows (P := Try.prog) (w.alloc (.cells #[.int .u8 (100 + (r : Int))] 5)) 22 ty 5 i (.int .u8 0) 1 1 Try.underlying22 i1 i2 i3 i4 rfl (by decide) ⟨a, 0, none⟩ x.length x.length (bcells x) (by rw [bcells_len]; omega) (fun j u hu => by
      rw [Addr.add_mid, Nat.zero_add]
      exact (R.alloc _).cell j u hu) ⟨w.heap.size, 0, none⟩ 1 1 [Value.int .u8 (100 + (r : Int))] rfl hnew (by omega) (by unfold maxLen; omega) (by omega)
    refine ⟨v', w', hr', .inr ⟨by omega, ?_⟩, hbb.trans ⟨hg.os, hg.tape, hg.output, hg.size, fun j hj => hg.block j (Nat.lt_of_lt_of_le hj (Nat.le_trans hH hal.size)) (by simp)⟩⟩
    have h1 := owns_le ho' (Nat.le_trans hH hal.size)
    have h2 : bcells x ++ [Value.int .u8 (100 + (r : Int))] = bcells (x ++ List.replicate (0 + 1) (bt (100 + r))) := by rw [← hcat]; simp
    rw [h2] at h1
    exact h1
  · obtain ⟨v', w', hr', ho', hg, _⟩ := run_append_own (P := Try.prog) (w.alloc (.cells #[.int .u8 (100 + (r : Int))] 5)) H 22 ty 5 i (.int .u8 0) 1 1 Try.underlying22 i1 i2 i3 i4 rfl (by decide) mv (x.length + k) _ (ho.alloc _) ⟨w.heap.size, 0, none⟩ 1 1 [Value.int .u8 (100 + (r : Int))] rfl hnew hone (by unfold maxLen; omega) (by omega) (Nat.le_trans hH hal.size)
    rw [hcat] at ho'
    refine ⟨v', w', hr', .inr ⟨by omega, ho'⟩, hbb.trans ⟨hg.os, hg.tape, hg.output, hg.size, fun j hj => hg.block j (Nat.lt_of_lt_of_le hj (Nat.le_trans hH hal.size)) (fun e => ?_)⟩⟩
    obtain ⟨_, ⟨rfl, _⟩ | ⟨g, cap, cur, rfl, hbb, _⟩⟩ := ho
    · cases e
    · simp only [Value.ownBlock, Option.some.injEq] at e
      omega
end Go.Proofs.Ytjnmfedefmemnaa
