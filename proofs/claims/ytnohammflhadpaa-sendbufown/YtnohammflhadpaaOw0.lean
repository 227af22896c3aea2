import Derived.Test.YtnohammflhadpaaCh
namespace Go.Proofs.Ytnohammflhadpaa
open Go.RowKit Go.Maps Go.Sort
set_option maxRecDepth 100000

set_option maxHeartbeats 1000000 in
/-- A copy of bytes, as an own row. -/
theorem clone_own {w : World} {a : Option Addr} {n cap : Nat} {bs : List (BitVec 8)} (hB : BytesAt w a bs) (hn : bs.length = n) (hl : n ≤ 1048576) :
    Calls Try.prog 38 #[.slice a n cap] w fun e w' => ∃ v, e = .returned v ∧ w'.ownsRow w.heap.size 5 1 v bs.length (bcells bs) ∧ Below w.heap.size w w' := by
  cases a with
  | none =>
    obtain rfl : bs = [] := by
      cases bs with
      | nil => rfl
      | cons b l => obtain ⟨g, o, e, _⟩ := hB 0 (by simp); cases e
    obtain rfl : n = 0 := hn.symm
    clear hB hn
    have HP : Hid (w.ownsRow w.heap.size 5 1 (.slice none 0 0) ([] : List (BitVec 8)).length (bcells [])) := ⟨rfl, .inl ⟨rfl, rfl⟩⟩
    have he : ∀ w : World, (binOp .eql 25 (.slice none 0 cap) (.slice none 0 0)).run Try.prog w = .ok (.bool true) w := fun _ => rfl
    go_enter Try.func38, Try.ntmps38
    go_wp2
    go_ret
    exact ⟨_, rfl, HP.out, Below.refl _ _⟩
  | some ad =>
    have HB := hid hB
    have HN := hid hn
    have HL := hid hl
    have he : ∀ w : World, (binOp .eql 25 (.slice (some ad) n cap) (.slice none 0 0)).run Try.prog w = .ok (.bool false) w := fun _ => rfl
    clear hB hn hl
    go_enter Try.func38, Try.ntmps38
    go_wp2_with (at_builtin; refine wpAppendB (.tmp 5) (.tmp 6) rfl rfl (base := w.heap.size) (v := .slice (some ⟨w.heap.size, 0, none⟩) 0 0) (old := []) rfl ⟨rfl, .inr ⟨w.heap.size, 0, #[], rfl, Nat.le_refl _, heap_alloc_last w _, Nat.le_refl _, by decide, rfl, rfl⟩⟩ (by simp) (fun g e => by simp [Value.ownBlock] at e; omega) rfl HN.out (HB.out.kept ((Below.refl _ _).alloc (Nat.le_refl _) _)) (by have := HL.out; omega) ?_; intro w' v' hO hb)
    go_ret
    have hb2 : Below w.heap.size w w' := ((Below.refl _ _).alloc (Nat.le_refl _) _).trans hb.out
    have hO2 := hO.out
    rw [List.nil_append, Nat.zero_add, ← HN.out] at hO2
    exact ⟨_, rfl, hO2, hb2⟩
/-- What Bytes answers, as an own row. -/
theorem bytes_own {w : World} {p : Nat} {F : Sb} {a : Option Addr} {cap : Nat} (h : SbR w p F a cap) {k : Nat} (hkl : k < F.L.length) :
    Calls Try.prog 27 #[.pointer (some ⟨p, 0, none⟩), .int .u64 F.L[k].off] w fun e w' => ∃ v, e = .returned v ∧ w'.ownsRow w.heap.size 5 1 v F.L[k].bs.length (bcells F.L[k].bs) ∧ Below w.heap.size w w' := by
  obtain ⟨g, o, e', hcl⟩ := h.ck k hkl
  cases e'
  have HA := hid (at_some h ⟨hkl, rfl⟩)
  have q1 := hcl 1 _ rfl
  have HC : Hid (∀ w1, Below w.heap.size w w1 → Calls Try.prog 38 #[.slice F.L[k].a F.L[k].bs.length F.L[k].cap] w1 fun e w' => ∃ v, e = .returned v ∧ w'.ownsRow w1.heap.size 5 1 v F.L[k].bs.length (bcells F.L[k].bs) ∧ Below w1.heap.size w1 w') := fun w1 hb => clone_own ((h.by_ _ (List.getElem_mem hkl)).kept hb) rfl (by have h1 := h.ok.ck _ (List.getElem_mem hkl); have h2 := h1.cap; have h3 := h1.capm; omega)
  have HQ : Hid (∀ w1, Below w.heap.size w w1 → w1.cell? ⟨g, o + k * 6 + 1, none⟩ = some (.slice F.L[k].a F.L[k].bs.length F.L[k].cap)) := fun w1 hb => cell_kept hb q1
  generalize F.L[k] = c at *
  clear h hcl q1
  go_enter Try.func27, Try.ntmps27
  go_wp2_with (first | (go_at_call 40; refine HA.out.mono ?_; rintro e w1 ⟨rfl, hb1⟩; have HB1 := hid hb1; have r1 := HQ.out w1 hb1; clear hb1) | (go_at_call 38; refine (HC.out w1 HB1.out).mono ?_; rintro e w2 ⟨v2, rfl, ho2, hb2⟩; have HX := hid (And.intro ho2 hb2); clear ho2 hb2))
  go_ret
  have ho := HX.out.1
  have hs := HB1.out.size
  refine ⟨_, rfl, ⟨ho.1, ho.2.imp id ?_⟩, HB1.out.trans (HX.out.2.mono hs)⟩
  rintro ⟨g', cap', cur, h1, h2, h3⟩
  exact ⟨g', cap', cur, h1, Nat.le_trans hs h2, h3⟩
end Go.Proofs.Ytnohammflhadpaa
