import Derived.Test.YtnohammflhadpaaSb13
namespace Go.Proofs.Ytnohammflhadpaa
open Go.RowKit Go.Maps Go.Sort
set_option maxRecDepth 100000

def Sb.close1 (F : Sb) : Sb := { F with closed := true }
theorem Sb.close1_ok {F : Sb} (h : F.Ok) : F.close1.Ok :=
  ⟨h.r0, h.r1, h.m0, h.m1, h.a0, h.a1, h.h0, h.h1, h.e1, h.fr, h.g0, h.g1, fun c hm => (have t := h.ck c hm; ⟨t.o0, t.ol, t.on0, t.on1, t.cap, t.capm, t.fin, t.few⟩), h.so, h.nl, (fun e => by cases e), h.ak, h.ch, h.la⟩
/-- Behind an append and the store of the list. -/
theorem SbW.push {w w' : World} {p : Nat} {F G : Sb} {a a' : Option Addr} {cap cap' : Nat} (h : SbW w p F a cap) {c : Ck} (hL : G.L = F.L ++ [c]) (hc : G.cells (.slice a' (F.L.length + 1) cap') = (F.cells (.slice a F.L.length cap)).set 7 (.slice a' (F.L.length + 1) cap')) (ok : G.Ok)
    (h1 : CksAt w' a' (F.L ++ [c])) (h2 : CkOwn w' a' cap') (h3 : F.L.length + 1 ≤ cap') (h4 : cap' ≤ maxLen) (h5 : (a' = a ∧ cap' = cap ∧ ∃ g o, a = some ⟨g, o, none⟩ ∧ Fr (fun x => x = g) w w') ∨ (a' = some ⟨w.heap.size, 0, none⟩ ∧ Below w.heap.size w w'))
    (hby : BytesAt w c.a c.bs) (hap : ∀ g o, c.a = some ⟨g, o, none⟩ → g ≠ p ∧ g < w.heap.size ∧ ∀ g' o', a = some ⟨g', o', none⟩ → g ≠ g') (hlt : ∀ d ∈ F.L, ∀ g o, d.a = some ⟨g, o, none⟩ → g < w.heap.size) :
    SbW (w'.setCell ⟨p, 7, none⟩ (.slice a' (F.L.length + 1) cap')) p G a' cap' ∧ Fr (fun x => x = p ∨ ∃ o, a = some ⟨x, o, none⟩) w (w'.setCell ⟨p, 7, none⟩ (.slice a' (F.L.length + 1) cap')) := by
  have hp1 : p < w.heap.size := h.r.row.lt
  -- the row's block is not p
  obtain ⟨g1, o1, arr1, e1, hg1, hs1⟩ : ∃ g o arr, a' = some ⟨g, o, none⟩ ∧ w'.heap[g]? = some (.cells arr 78 (0, 0)) ∧ o + cap' * 6 = arr.size := by
    rcases h2 with e | e
    · omega
    · exact e
  subst e1
  have hS : Fr (fun x => x ≠ p ∧ ∃ o, a = some ⟨x, o, none⟩) w w' ∧ (g1 = w.heap.size ∨ ∃ o, a = some ⟨g1, o, none⟩) ∧ g1 ≠ p := by
    rcases h5 with ⟨e, ec, g, o, ea, hf⟩ | ⟨e, hb⟩
    · rw [ea] at e
      cases e
      have hne : g1 ≠ p := fun e2 => by
        subst e2
        rcases h.own with e3 | ⟨g', o', arr, e3, hg, _⟩
        · omega
        · rw [ea] at e3
          cases e3
          have := h.r.row.at_.symm.trans hg
          simp at this
      exact ⟨hf.wider (fun x hx => by subst hx; exact ⟨hne, _, ea⟩), .inr ⟨_, ea⟩, hne⟩
    · cases e
      exact ⟨Fr.of_below hb (Nat.le_refl _), .inl rfl, by omega⟩
  obtain ⟨hf, hg, hgp⟩ := hS
  have hrow : Row w' p (F.cells (.slice a F.L.length cap)) 74 := hf.row h.r.row (fun e => e.1 rfl)
  have hfr2 : Fr (fun x => x = p) w' (w'.setCell ⟨p, 7, none⟩ (.slice (some ⟨g1, o1, none⟩) (F.L.length + 1) cap')) := ⟨rfl, rfl, rfl, by simp [World.setCell], fun x hx hn => Below.heap_setCell w' _ _ x hn⟩
  have hbytes : ∀ d ∈ F.L ++ [c], BytesAt w d.a d.bs ∧ ∀ g o, d.a = some ⟨g, o, none⟩ → g ≠ p ∧ g < w.heap.size ∧ ∀ g' o', a = some ⟨g', o', none⟩ → g ≠ g' := fun d hd => by
    rcases List.mem_append.1 hd with e | e
    · exact ⟨h.r.by_ d e, fun g o ed => ⟨(h.ap d e g o ed).1, hlt d e g o ed, (h.ap d e g o ed).2⟩⟩
    · simp at e
      subst e
      exact ⟨hby, hap⟩
  refine ⟨⟨⟨?_, ?_, ?_, ok, by rw [hL]; simp; exact h3, h4⟩, ?_, ?_⟩, ?_⟩
  · rw [show G.L.length = F.L.length + 1 by rw [hL]; simp, hc]
    exact hrow.set 7 _
  · rw [hL]
    intro k hk
    obtain ⟨g, o, e, q⟩ := h1 k hk
    cases e
    exact ⟨_, _, rfl, fun j v hv => hfr2.cell (q j v hv) hgp⟩
  · rw [hL]
    intro d hd i hi
    obtain ⟨g, o, e, q⟩ := (hbytes d hd).1 i hi
    obtain ⟨n1, n2, n3⟩ := (hbytes d hd).2 g o e
    exact ⟨g, o, e, hfr2.cell (hf.cell q (fun e2 => by obtain ⟨_, o2, e3⟩ := e2; exact n3 _ _ e3 rfl)) n1⟩
  · exact .inr ⟨g1, o1, arr1, rfl, (hfr2.block g1 (Array.getElem?_eq_some_iff.1 hg1).1 hgp).trans hg1, hs1⟩
  · rw [hL]
    intro d hd g o e
    obtain ⟨n1, n2, n3⟩ := (hbytes d hd).2 g o e
    refine ⟨n1, fun g' o' e' => ?_⟩
    cases e'
    rcases hg with e2 | ⟨o2, e2⟩
    · omega
    · exact n3 _ _ e2
  · exact (hf.wider (fun x hx => .inr hx.2)).trans hfr2 (fun x hx => .inl (.inl hx))
end Go.Proofs.Ytnohammflhadpaa
