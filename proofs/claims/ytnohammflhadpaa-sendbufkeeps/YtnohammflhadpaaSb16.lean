import Derived.Test.YtnohammflhadpaaSb15
import Derived.Laws.AppendOwn
namespace Go.Proofs.Ytnohammflhadpaa
open Go.RowKit Go.Maps Go.Sort
set_option maxRecDepth 100000

/-- An own row of bytes. -/
abbrev OwnBy (w : World) (base : Nat) (v : Value) (l : List (BitVec 8)) : Prop := w.ownsRow base 5 1 v l.length (bcells l)
theorem ownBy_shape {w : World} {base : Nat} {v : Value} {l : List (BitVec 8)} (h : OwnBy w base v l) : ∃ a cap, v = .slice a l.length cap ∧ BytesAt w a l ∧ l.length ≤ cap ∧ cap ≤ maxLen ∧ ∀ g o, a = some ⟨g, o, none⟩ → base ≤ g ∧ o = 0 ∧ ∃ cur, w.heap[g]? = some (.cells cur 5 (0, 0)) := by
  obtain ⟨hl, ⟨rfl, hn⟩ | ⟨g, cap, cur, rfl, hb, hg, hnc, hcm, hcs, htk⟩⟩ := h
  · exact ⟨none, 0, by rw [hn], fun k hk => by omega, by omega, Nat.zero_le _, fun g o e => by cases e⟩
  · refine ⟨some ⟨g, 0, none⟩, cap, rfl, fun k hk => ⟨g, 0, rfl, ?_⟩, hnc, hcm, fun g' o e => by cases e; exact ⟨hb, rfl, cur, hg⟩⟩
    have h1 := bcells_get hk
    rw [Nat.zero_add, cell_of_row w g _ _ _ _ hg, ← h1, ← htk, List.getElem?_take, if_pos (by omega), Array.getElem?_toList]
/-- 'append' of bytes to a row that the call made. -/
theorem wpAppendB {ops : Array Oper} {rest : List Oper} {o : Oper} {a : Act} {w : World} {Q : Exit → Act → World → Prop} (s x : Operand) (hgd : o.guard = none) (ho : o.op = .call { callee := .builtin .append, args := #[s, x], argTypes := #[25, 25] })
    {base k : Nat} {v : Value} {old : List (BitVec 8)} (hs : a.eval s = v) (hown : w.ownsRow base 5 1 v k (bcells old)) (hbase : base ≤ w.heap.size) (hfr : ∀ g, v.ownBlock = some g → base ≤ g)
    {ad : Addr} {n c : Nat} {bs : List (BitVec 8)} (hx : a.eval x = .slice (some ad) n c) (hn : bs.length = n) (hB : BytesAt w (some ad) bs) (hl : k + n ≤ 140737488355328)
    (h : ∀ w' v', Hid (w'.ownsRow base 5 1 v' (k + n) (bcells (old ++ bs))) → Hid (Below base w w') → wpList Try.prog ops Q rest (a.put o.dst v') w') : wpList Try.prog ops Q (o :: rest) a w := by
  obtain ⟨i, h1, h2, h3, h4⟩ := info5
  subst hn
  refine wpList_append_own w hgd s x 25 ho base 5 i (.int .u8 0) 1 1 Try.underlying25 h1 h2 h3 h4 rfl (by decide) v k (bcells old) hs hown ad bs.length c (bcells bs) hx (by rw [bcells_len]; omega) ?_ (bcells_one _) (by unfold maxLen; omega) (by omega) hbase ?_
  · intro j u hv
    have hj : j < bs.length := by
      have := (List.getElem?_eq_some_iff.1 hv).1
      rwa [bcells_len] at this
    obtain ⟨g2, o2, e2, c2⟩ := hB j hj
    cases e2
    rw [bcells_get hj] at hv
    rw [Addr.add_mid, c2]
    exact hv
  · intro v' w' hown' hgrow _
    refine h w' v' ?_ ?_
    · show World.ownsRow _ _ _ _ _ _ _
      rw [show bcells (old ++ bs) = bcells old ++ bcells bs by simp [bcells]]; exact hown'
    · exact ((Below.refl _ _).grown hgrow hbase hfr)
/-- What a copy of bytes is. -/
def CloneAns (w : World) (bs : List (BitVec 8)) (n : Nat) (e : Ending) (w' : World) : Prop := ∃ a' c', e = .returned (.slice a' n c') ∧ BytesAt w' a' bs ∧ n ≤ c' ∧ c' ≤ maxLen ∧ (∀ g o, a' = some ⟨g, o, none⟩ → w.heap.size ≤ g ∧ o = 0 ∧ ∃ cur, w'.heap[g]? = some (.cells cur 5 (0, 0))) ∧ Below w.heap.size w w'
set_option maxHeartbeats 1000000 in
theorem clone_any {w : World} {a : Option Addr} {n cap : Nat} {bs : List (BitVec 8)} (hB : BytesAt w a bs) (hn : bs.length = n) (hl : n ≤ 1048576) (hz : a = none → cap = 0) :
    Calls Try.prog 38 #[.slice a n cap] w (CloneAns w bs n) := by
  cases a with
  | none =>
    obtain rfl : bs = [] := by
      cases bs with
      | nil => rfl
      | cons b l => obtain ⟨g, o, e, _⟩ := hB 0 (by simp); cases e
    obtain rfl : n = 0 := hn.symm
    obtain rfl : cap = 0 := hz rfl
    clear hB hn
    have HP : Hid (CloneAns w [] 0 (.returned (.slice none 0 0)) w) := ⟨none, 0, rfl, fun k hk => absurd hk (Nat.not_lt_zero _), Nat.le_refl _, Nat.zero_le _, fun g o e => (by cases e), Below.refl _ _⟩
    have he : ∀ w : World, (binOp .eql 25 (.slice none 0 0) (.slice none 0 0)).run Try.prog w = .ok (.bool true) w := fun _ => rfl
    go_enter Try.func38, Try.ntmps38
    go_wp2
    go_ret
    exact HP.out
  | some ad =>
    have HB := hid hB
    have HN := hid hn
    have HL := hid hl
    have he : ∀ w : World, (binOp .eql 25 (.slice (some ad) n cap) (.slice none 0 0)).run Try.prog w = .ok (.bool false) w := fun _ => rfl
    clear hB hn hl hz
    go_enter Try.func38, Try.ntmps38
    go_wp2_with (at_builtin; refine wpAppendB (.tmp 5) (.tmp 6) rfl rfl (base := w.heap.size) (v := .slice (some ⟨w.heap.size, 0, none⟩) 0 0) (old := []) rfl ⟨rfl, .inr ⟨w.heap.size, 0, #[], rfl, Nat.le_refl _, heap_alloc_last w _, Nat.le_refl _, by decide, rfl, rfl⟩⟩ (by simp) (fun g e => by simp [Value.ownBlock] at e; omega) rfl HN.out (HB.out.kept ((Below.refl _ _).alloc (Nat.le_refl _) _)) (by have := HL.out; omega) ?_; intro w' v' hO hb)
    go_ret
    have hb2 : Below w.heap.size w w' := ((Below.refl _ _).alloc (Nat.le_refl _) _).trans hb.out
    have hO2 := hO.out
    rw [List.nil_append, Nat.zero_add, ← HN.out] at hO2
    obtain ⟨a', c', rfl, hA, h1, h2, h3⟩ := ownBy_shape hO2
    exact ⟨a', c', by rw [HN.out]; rfl, hA, by rw [← HN.out]; exact h1, h2, h3, hb2⟩
/-- What Bytes answers. -/
theorem bytes_none {w : World} {p : Nat} {F : Sb} {a : Option Addr} {cap : Nat} (h : SbR w p F a cap) (off : Int) (hn : ∀ k, ¬ F.find off k) : Calls Try.prog 27 #[.pointer (some ⟨p, 0, none⟩), .int .u64 off] w fun e w' => e = .returned (.slice none 0 0) ∧ Below w.heap.size w w' := by
  have HA := hid (at_none h off hn)
  clear h hn
  go_enter Try.func27, Try.ntmps27
  go_wp2_with (go_at_call 40; refine HA.out.mono ?_; rintro e w1 ⟨rfl, hb1⟩; have HB1 := hid hb1; clear hb1)
  go_ret
  exact ⟨rfl, HB1.out⟩
set_option maxHeartbeats 1000000 in
theorem bytes_some {w : World} {p : Nat} {F : Sb} {g o cap : Nat} (h : SbR w p F (some ⟨g, o, none⟩) cap) {off : Int} {k : Nat} (hk : F.find off k) (hkl : k < F.L.length) (hz : F.L[k].a = none → F.L[k].cap = 0) :
    Calls Try.prog 27 #[.pointer (some ⟨p, 0, none⟩), .int .u64 off] w (fun e w' => ∃ w1, Below w.heap.size w w1 ∧ CloneAns w1 F.L[k].bs F.L[k].bs.length e w') := by
  have HA := hid (at_some h hk)
  obtain ⟨g', o', e', hcl⟩ := h.ck k hkl
  cases e'
  have q1 := hcl 1 _ rfl
  have HC : Hid (∀ w1, Below w.heap.size w w1 → Calls Try.prog 38 #[.slice F.L[k].a F.L[k].bs.length F.L[k].cap] w1 (CloneAns w1 F.L[k].bs F.L[k].bs.length)) := fun w1 hb => clone_any ((h.by_ _ (List.getElem_mem hkl)).kept hb) rfl (by have h1 := h.ok.ck _ (List.getElem_mem hkl); have h2 := h1.cap; have h3 := h1.capm; omega) hz
  have HQ : Hid (∀ w1, Below w.heap.size w w1 → w1.cell? ⟨g, o + k * 6 + 1, none⟩ = some (.slice F.L[k].a F.L[k].bs.length F.L[k].cap)) := fun w1 hb => cell_kept hb q1
  generalize F.L[k] = c at *
  clear h hk hcl q1
  go_enter Try.func27, Try.ntmps27
  go_wp2_with (first | (go_at_call 40; refine HA.out.mono ?_; rintro e w1 ⟨rfl, hb1⟩; have HB1 := hid hb1; have r1 := HQ.out w1 hb1; clear hb1) | (go_at_call 38; refine (HC.out w1 HB1.out).mono ?_; rintro e w2 ⟨a', c', rfl, hA⟩; have HX := hid hA; clear hA))
  go_ret
  exact ⟨w1, HB1.out, a', c', rfl, HX.out⟩
end Go.Proofs.Ytnohammflhadpaa
