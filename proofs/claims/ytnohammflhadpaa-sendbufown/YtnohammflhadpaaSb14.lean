import Derived.Test.YtnohammflhadpaaSb12
namespace Go.Proofs.Ytnohammflhadpaa
open Go.RowKit Go.Maps Go.Sort
set_option maxRecDepth 100000

/-- The end as a chunk. -/
def endCk (e : Int) : Ck := ⟨e, [], none, 0, true, 0, false, false⟩
def Sb.shut (F : Sb) : Sb := { F with closed := true, L := F.L ++ [endCk F.end_] }
theorem Sb.shut_ok {F : Sb} (h : F.Ok) (hc : F.closed = false) (hn : F.L.length ≤ 65536) (ha : F.acked ≤ F.end_) : F.shut.Ok := by
  have hlt : ∀ c ∈ F.L, c.off < F.end_ := fun c hm => by
    have h1 := h.ck c hm
    have h2 := h1.few (h.cl hc c hm)
    have h3 := h1.ol
    have h4 := List.length_pos_iff.2 h2
    omega
  refine ⟨h.r0, h.r1, h.m0, h.m1, h.a0, h.a1, h.h0, h.h1, h.e1, h.fr, h.g0, h.g1, fun c hm => ?_, ?_, ?_, (fun e => by cases e), fun c hm => ?_, fun i hi => ?_, fun c hm => ?_⟩
  · rcases List.mem_append.1 hm with e | e
    · have := h.ck c e
      exact ⟨this.o0, this.ol, this.on0, this.on1, this.cap, this.capm, this.fin, this.few⟩
    · simp at e
      subst e
      have h1 := h.h0
      have h2 := h.h1
      exact ⟨by show 0 ≤ F.end_; omega, by show F.end_ + ((0 : Nat) : Int) ≤ F.end_; omega, Int.le_refl 0, by show (0 : Int) ≤ 255; omega, Nat.le_refl 0, Nat.zero_le _, fun _ => ⟨rfl, rfl⟩, fun e => by cases e⟩
  · show (F.L ++ [endCk F.end_]).Pairwise _
    rw [List.pairwise_append]
    exact ⟨h.so, List.pairwise_singleton _ _, fun c hm d hd => by simp at hd; subst hd; exact hlt c hm⟩
  · show (F.L ++ [endCk F.end_]).length ≤ 65537
    simp; omega
  · rcases List.mem_append.1 hm with e | e
    · exact h.ak c e
    · simp at e
      subst e
      show F.acked < (if true = true then F.end_ + 1 else F.end_ + ((0 : Nat) : Int))
      rw [if_pos rfl]; omega
  · have hi' : i + 1 < (F.L ++ [endCk F.end_]).length := hi
    simp at hi'
    show ((F.L ++ [endCk F.end_])[i]'(by simp; omega)).off + (((F.L ++ [endCk F.end_])[i]'(by simp; omega)).bs.length : Int) = ((F.L ++ [endCk F.end_])[i + 1]'(by simp; omega)).off
    rw [List.getElem_append_left (show i < F.L.length by omega)]
    by_cases e : i + 1 < F.L.length
    · rw [List.getElem_append_left e]; exact h.ch i e
    · rw [List.getElem_append_right (by omega)]
      have hla := h.la F.L[i] (by rw [List.getLast?_eq_getElem?, show F.L.length - 1 = i by omega]; exact List.getElem?_eq_getElem (by omega))
      simp only [List.getElem_singleton]
      exact hla
  · have hm' : (F.L ++ [endCk F.end_]).getLast? = some c := hm
    simp at hm'
    subst hm'
    show F.end_ + ((0 : Nat) : Int) = F.end_
    omega
set_option maxHeartbeats 1000000 in
theorem close_no {w : World} {p : Nat} {F : Sb} {a : Option Addr} {cap : Nat} (h : SbR w p F a cap) (hc : F.closed = true) : Calls Try.prog 12 #[.pointer (some ⟨p, 0, none⟩)] w fun e w' => e = .returned (.bool false) ∧ w' = w := by
  have c6 : w.cell? ⟨p, 6, none⟩ = some (.bool true) := by rw [← hc]; exact h.row.cell 6 _ rfl
  clear h hc
  go_enter Try.func12, Try.ntmps12
  go_wp2
  go_ret
  exact ⟨rfl, rfl⟩
end Go.Proofs.Ytnohammflhadpaa
namespace Go.Proofs.Ytnohammflhadpaa
open Go.RowKit Go.Maps Go.Sort
set_option maxRecDepth 100000

def Sb.close1 (F : Sb) : Sb := { F with closed := true }
theorem Sb.close1_ok {F : Sb} (h : F.Ok) : F.close1.Ok :=
  ⟨h.r0, h.r1, h.m0, h.m1, h.a0, h.a1, h.h0, h.h1, h.e1, h.fr, h.g0, h.g1, fun c hm => (have t := h.ck c hm; ⟨t.o0, t.ol, t.on0, t.on1, t.cap, t.capm, t.fin, t.few⟩), h.so, h.nl, (fun e => by cases e), h.ak, h.ch, h.la⟩
/-- Behind an append and the store of the list. -/
theorem SbW.push {w w' : World} {p : Nat} {F G : Sb} {a a' : Option Addr} {cap cap' : Nat} (h : SbW w p F a cap) {c : Ck} (hL : G.L = F.L ++ [c]) (hc : G.cells (.slice a' (F.L.length + 1) cap') = (F.cells (.slice a F.L.length cap)).set 7 (.slice a' (F.L.length + 1) cap')) (ok : G.Ok)
    (h1 : CksAt w' a' (F.L ++ [c])) (h2 : CkOwn w' a' cap') (h3 : F.L.length + 1 ≤ cap') (h4 : cap' ≤ maxLen) (h5 : (a' = a ∧ cap' = cap ∧ ∃ g o, a = some ⟨g, o, none⟩ ∧ Fr (fun x => x = g) w w') ∨ (a' = some ⟨w.heap.size, 0, none⟩ ∧ Below w.heap.size w w'))
    (hby : BytesAt w c.a c.bs) (hap : ∀ g o, c.a = some ⟨g, o, none⟩ → g ≠ p ∧ g < w.heap.size ∧ ∀ g' o', a = some ⟨g', o', none⟩ → g ≠ g') (hlt : ∀ d ∈ F.L, ∀ g o, d.a = some ⟨g, o, none⟩ → g < w.heap.size) :
    SbW (w'.setCell ⟨p, 7, none⟩ (.slice a' (F.L.length + 1) cap')) p G a' cap' ∧ Fr (fun x => x = p ∨ ∃ o, a = some ⟨x, o, none⟩) w (w'.setCell ⟨p, 7, none⟩ (.slice a' (F.L.length + 1) cap')) := by
  have hp1 : p < w.heap.size := h.r.row.lt
  -- the row's block is not p
  obtain ⟨g1, o1, arr1, e1, hg1, hs1⟩ : ∃ g o arr, a' = some ⟨g, o, none⟩ ∧ w'.heap[g]? = some (.cells arr 78 (0, 0)) ∧ o + cap' * 6 = arr.size := by
    rcases h2 with e | e
    · omega
    · exact e
  subst e1
  have hS : Fr (fun x => x ≠ p ∧ ∃ o, a = some ⟨x, o, none⟩) w w' ∧ (g1 = w.heap.size ∨ ∃ o, a = some ⟨g1, o, none⟩) ∧ g1 ≠ p := by
    rcases h5 with ⟨e, ec, g, o, ea, hf⟩ | ⟨e, hb⟩
    · rw [ea] at e
      cases e
      have hne : g1 ≠ p := fun e2 => by
        subst e2
        rcases h.own with e3 | ⟨g', o', arr, e3, hg, _⟩
        · omega
        · rw [ea] at e3
          cases e3
          have := h.r.row.at_.symm.trans hg
          simp at this
      exact ⟨hf.wider (fun x hx => by subst hx; exact ⟨hne, _, ea⟩), .inr ⟨_, ea⟩, hne⟩
    · cases e
      exact ⟨Fr.of_below hb (Nat.le_refl _), .inl rfl, by omega⟩
  obtain ⟨hf, hg, hgp⟩ := hS
  have hrow : Row w' p (F.cells (.slice a F.L.length cap)) 74 := hf.row h.r.row (fun e => e.1 rfl)
  have hfr2 : Fr (fun x => x = p) w' (w'.setCell ⟨p, 7, none⟩ (.slice (some ⟨g1, o1, none⟩) (F.L.length + 1) cap')) := ⟨rfl, rfl, rfl, by simp [World.setCell], fun x hx hn => Below.heap_setCell w' _ _ x hn⟩
  have hbytes : ∀ d ∈ F.L ++ [c], BytesAt w d.a d.bs ∧ ∀ g o, d.a = some ⟨g, o, none⟩ → g ≠ p ∧ g < w.heap.size ∧ ∀ g' o', a = some ⟨g', o', none⟩ → g ≠ g' := fun d hd => by
    rcases List.mem_append.1 hd with e | e
    · exact ⟨h.r.by_ d e, fun g o ed => ⟨(h.ap d e g o ed).1, hlt d e g o ed, (h.ap d e g o ed).2⟩⟩
    · simp at e
      subst e
      exact ⟨hby, hap⟩
  refine ⟨⟨⟨?_, ?_, ?_, ok, by rw [hL]; simp; exact h3, h4⟩, ?_, ?_⟩, ?_⟩
  · rw [show G.L.length = F.L.length + 1 by rw [hL]; simp, hc]
    exact hrow.set 7 _
  · rw [hL]
    intro k hk
    obtain ⟨g, o, e, q⟩ := h1 k hk
    cases e
    exact ⟨_, _, rfl, fun j v hv => hfr2.cell (q j v hv) hgp⟩
  · rw [hL]
    intro d hd i hi
    obtain ⟨g, o, e, q⟩ := (hbytes d hd).1 i hi
    obtain ⟨n1, n2, n3⟩ := (hbytes d hd).2 g o e
    exact ⟨g, o, e, hfr2.cell (hf.cell q (fun e2 => by obtain ⟨_, o2, e3⟩ := e2; exact n3 _ _ e3 rfl)) n1⟩
  · exact .inr ⟨g1, o1, arr1, rfl, (hfr2.block g1 (Array.getElem?_eq_some_iff.1 hg1).1 hgp).trans hg1, hs1⟩
  · rw [hL]
    intro d hd g o e
    obtain ⟨n1, n2, n3⟩ := (hbytes d hd).2 g o e
    refine ⟨n1, fun g' o' e' => ?_⟩
    cases e'
    rcases hg with e2 | ⟨o2, e2⟩
    · omega
    · exact n3 _ _ e2
  · exact (hf.wider (fun x hx => .inr hx.2)).trans hfr2 (fun x hx => .inl (.inl hx))
end Go.Proofs.Ytnohammflhadpaa
