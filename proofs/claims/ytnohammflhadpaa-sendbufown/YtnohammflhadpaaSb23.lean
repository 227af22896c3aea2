import Derived.Test.YtnohammflhadpaaSb22
namespace Go.Proofs.Ytnohammflhadpaa
open Go.RowKit Go.Maps Go.Sort
set_option maxRecDepth 100000

/-- A buffer's memory, whatever its cells say. -/
structure SbM (w : World) (p : Nat) (L : List Ck) (a : Option Addr) (cap : Nat) : Prop where
  ck : CksAt w a L
  by_ : ∀ c ∈ L, BytesAt w c.a c.bs
  lc : L.length ≤ cap
  cm : cap ≤ maxLen
  own : cap = 0 ∨ ∃ g o arr, a = some ⟨g, o, none⟩ ∧ w.heap[g]? = some (.cells arr 78 (0, 0)) ∧ o + cap * 6 = arr.size
  ap : ∀ c ∈ L, ∀ g o, c.a = some ⟨g, o, none⟩ → g ≠ p ∧ ∀ g' o', a = some ⟨g', o', none⟩ → g ≠ g'
theorem SbW.mem {w : World} {p : Nat} {F : Sb} {a : Option Addr} {cap : Nat} (h : SbW w p F a cap) : SbM w p F.L a cap := ⟨h.r.ck, h.r.by_, h.r.lc, h.r.cm, h.own, h.ap⟩
theorem SbM.sb {w : World} {p : Nat} {F : Sb} {a : Option Addr} {cap : Nat} (h : SbM w p F.L a cap) (hr : Row w p (F.cells (.slice a F.L.length cap)) 74) (ok : F.Ok) : SbW w p F a cap := ⟨⟨hr, h.ck, h.by_, ok, h.lc, h.cm⟩, h.own, h.ap⟩
theorem SbM.kept {w w' : World} {p : Nat} {L : List Ck} {a : Option Addr} {cap : Nat} (h : SbM w p L a cap) (hb : Below w.heap.size w w') : SbM w' p L a cap := by
  refine ⟨h.ck.kept hb, fun c hc => (h.by_ c hc).kept hb, h.lc, h.cm, ?_, h.ap⟩
  rcases h.own with e | ⟨g, o, arr, e, hg, hs⟩
  · exact .inl e
  · exact .inr ⟨g, o, arr, e, (hb.block g (Array.getElem?_eq_some_iff.1 hg).1).trans hg, hs⟩
/-- Only the buffer's own row is turned. -/
theorem SbM.row {w w' : World} {p : Nat} {L : List Ck} {a : Option Addr} {cap : Nat} (h : SbM w p L a cap) {cs : List Value} (hp : Row w p cs 74) (hf : Fr (fun x => x = p) w w') : SbM w' p L a cap := by
  have hne : ∀ g o, a = some ⟨g, o, none⟩ → cap ≠ 0 → g ≠ p := fun g o e hn => by
    rcases h.own with e' | ⟨g', o', arr, e', hg, _⟩
    · omega
    · rw [e] at e'
      cases e'
      rintro rfl
      have := hp.at_.symm.trans hg
      simp at this
  refine ⟨fun k hk => ?_, fun c hc i hi => ?_, h.lc, h.cm, ?_, h.ap⟩
  · obtain ⟨g, o, e, q⟩ := h.ck k hk
    exact ⟨g, o, e, fun j v hv => hf.cell (q j v hv) (hne g o e (by have := h.lc; omega))⟩
  · obtain ⟨g, o, e, q⟩ := h.by_ c hc i hi
    exact ⟨g, o, e, hf.cell q (h.ap c hc g o e).1⟩
  · rcases h.own with e | ⟨g, o, arr, e, hg, hs⟩
    · exact .inl e
    · refine .inr ⟨g, o, arr, e, (hf.block g (Array.getElem?_eq_some_iff.1 hg).1 (fun e2 => ?_)).trans hg, hs⟩
      by_cases hc : cap = 0
      · subst e2
        have := hp.at_.symm.trans hg
        simp at this
      · exact hne g o e hc e2
/-- The first n chunks' places are cleared, and the list goes on behind them. -/
theorem SbM.clear {w : World} {p : Nat} {L : List Ck} {a : Option Addr} {cap : Nat} (h : SbM w p L a cap) {cs : List Value} (hp : Row w p cs 74) {n : Nat} (hn : n ≤ L.length) :
    ∃ w1, (∀ ty c, (Builtin.clear_ #[72] ty #[.slice a n c]).run Try.prog w = .ok (.tuple #[]) w1) ∧ Fr (fun x => x ≠ p ∧ ∃ o, a = some ⟨x, o, none⟩) w w1 ∧
      ∀ a', (∀ g o, a = some ⟨g, o, none⟩ → n < cap → a' = some ⟨g, o + n * 6, none⟩) → (∀ g' o', a' = some ⟨g', o', none⟩ → ∃ o, a = some ⟨g', o, none⟩) → SbM w1 p (L.drop n) a' (cap - n) := by
  have hlc := h.lc
  have hsub : ∀ c ∈ L.drop n, c ∈ L := fun c hc => List.mem_of_mem_drop hc
  rcases h.own with e | ⟨g, o, arr, rfl, hg, hs⟩
  · have hL : L = [] := List.eq_nil_of_length_eq_zero (by omega)
    subst hL
    have hn0 : n = 0 := by simpa using hn
    subst hn0
    refine ⟨w, fun ty c => ?_, Fr.refl _ _, fun a' _ _ => ⟨fun k hk => by simp at hk, fun c hc => by simp at hc, by simp, by have := h.cm; omega, .inl (by omega), fun c hc => by simp at hc⟩⟩
    cases a <;> simp [Builtin.clear_, run_underlying Try.underlying72]
  · have hgp : g ≠ p := by
      rintro rfl
      have := hp.at_.symm.trans hg
      simp at this
    obtain ⟨w1, h1, ⟨arr', hg1, hs1, hk1⟩, hgr⟩ := run_clear78 w (some ⟨g, o, none⟩) n g o arr hg (fun _ => rfl) (by omega)
    have hf : Fr (fun x => x ≠ p ∧ ∃ o', some (⟨g, o, none⟩ : Addr) = some ⟨x, o', none⟩) w w1 := Fr.of_grown hgr (fun k e => by cases e; exact .inl ⟨hgp, o, rfl⟩)
    refine ⟨w1, h1, hf, fun a' ha' hb' => ⟨fun k hk => ?_, fun c hc i hi => ?_, by simp; omega, by have := h.cm; omega, ?_, fun c hc g1 o1 e1 => ?_⟩⟩
    · have hk' : n + k < L.length := by simp at hk; omega
      obtain ⟨g2, o2, e2, q⟩ := h.ck (n + k) hk'
      cases e2
      refine ⟨g, o + n * 6, ha' g o rfl (by omega), fun j v hv => ?_⟩
      rw [List.getElem_drop] at hv
      have h2 := q j v hv
      rw [cell_of_row w g _ _ _ _ hg] at h2
      rw [cell_of_row w1 g _ _ _ _ hg1, show o + n * 6 + k * 6 + j = o + (n + k) * 6 + j by omega, hk1 _ (by omega)]
      exact h2
    · obtain ⟨g2, o2, e2, q⟩ := h.by_ c (hsub c hc) i hi
      refine ⟨g2, o2, e2, hf.cell q (fun hx => ?_)⟩
      obtain ⟨_, o3, e3⟩ := hx
      have e4 : g = g2 := by simpa using congrArg (fun a => (a.map Addr.block)) e3
      exact (h.ap c (hsub c hc) g2 o2 e2).2 g o rfl e4.symm
    · by_cases e : cap - n = 0
      · exact .inl e
      · exact .inr ⟨g, o + n * 6, arr', ha' g o rfl (by omega), hg1, by omega⟩
    · refine ⟨(h.ap c (hsub c hc) g1 o1 e1).1, fun g' o' e' => ?_⟩
      obtain ⟨o2, e2⟩ := hb' g' o' e'
      cases e2
      exact (h.ap c (hsub c hc) g1 o1 e1).2 _ _ rfl
end Go.Proofs.Ytnohammflhadpaa
