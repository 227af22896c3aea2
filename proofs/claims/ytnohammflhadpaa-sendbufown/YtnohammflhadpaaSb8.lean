import Derived.Test.YtnohammflhadpaaSb7
namespace Go.Proofs.Ytnohammflhadpaa
open Go.RowKit Go.Maps Go.Sort
set_option maxRecDepth 100000

/-- A buffer with its memory. -/
structure SbW (w : World) (p : Nat) (F : Sb) (a : Option Addr) (cap : Nat) : Prop where
  r : SbR w p F a cap
  own : cap = 0 ∨ ∃ g o arr, a = some ⟨g, o, none⟩ ∧ w.heap[g]? = some (.cells arr 78 (0, 0)) ∧ o + cap * 6 = arr.size
  ap : ∀ c ∈ F.L, ∀ g o, c.a = some ⟨g, o, none⟩ → g ≠ p ∧ ∀ g' o', a = some ⟨g', o', none⟩ → g ≠ g'
theorem SbW.kept {w w' : World} {p : Nat} {F : Sb} {a : Option Addr} {cap : Nat} (h : SbW w p F a cap) (hb : Below w.heap.size w w') : SbW w' p F a cap := by
  refine ⟨h.r.kept hb, ?_, h.ap⟩
  rcases h.own with e | ⟨g, o, arr, e, hg, hs⟩
  · exact .inl e
  · exact .inr ⟨g, o, arr, e, (hb.block g (Array.getElem?_eq_some_iff.1 hg).1).trans hg, hs⟩
/-- The chunks' block. -/
theorem SbW.blk {w : World} {p : Nat} {F : Sb} {a : Option Addr} {cap : Nat} (h : SbW w p F a cap) {k : Nat} (hk : k < F.L.length) : ∃ g o arr, a = some ⟨g, o, none⟩ ∧ w.heap[g]? = some (.cells arr 78 (0, 0)) ∧ o + cap * 6 = arr.size ∧ g ≠ p := by
  rcases h.own with e | ⟨g, o, arr, e, hg, hs⟩
  · have := h.r.lc; omega
  · refine ⟨g, o, arr, e, hg, hs, fun e2 => ?_⟩
    subst e2
    have := h.r.row.at_.symm.trans hg
    simp at this
/-- One cell of one chunk is another one. -/
theorem CksAt.set {w : World} {g o : Nat} {L : List Ck} (h : CksAt w (some ⟨g, o, none⟩) L) {arr : Array Value} (hg : w.heap[g]? = some (.cells arr 78 (0, 0))) {k : Nat} (hk : k < L.length) {c : Ck} {j : Nat} {v : Value} (hj : j < 6) (hc : c.cells = L[k].cells.set j v) (hs : o + L.length * 6 ≤ arr.size) :
    CksAt (w.setCell ⟨g, o + k * 6 + j, none⟩ v) (some ⟨g, o, none⟩) (L.set k c) := by
  have hg' : (w.setCell ⟨g, o + k * 6 + j, none⟩ v).heap[g]? = some (.cells (arr.set! (o + k * 6 + j) v) 78 (0, 0)) := by
    rw [setCell_eq_setRow w g _ arr 78 (0, 0) v hg, setRow_heap w g _ _ 78 (0, 0) hg]
    first | rfl | simp
  intro m hm
  refine ⟨g, o, rfl, fun i u hu => ?_⟩
  rw [cell_of_row _ g _ _ 78 (0, 0) hg']
  have hm' : m < L.length := by simpa using hm
  have hlen : ∀ c : Ck, c.cells.length = 6 := fun c => rfl
  by_cases e : m = k
  · subst e
    rw [List.getElem_set_self, hc] at hu
    have hi : i < 6 := by have := (List.getElem?_eq_some_iff.1 hu).1; simpa [Ck.cells] using this
    by_cases e2 : i = j
    · subst e2
      rw [List.getElem?_set_self (by rw [hlen]; exact hi)] at hu
      rw [← hu, Array.set!_eq_setIfInBounds, Array.getElem?_setIfInBounds_self_of_lt (by omega)]
    · rw [List.getElem?_set_ne (fun e => e2 e.symm)] at hu
      obtain ⟨g2, o2, e3, h3⟩ := h m hm'
      cases e3
      have h4 := h3 i u hu
      rw [cell_of_row w g _ _ 78 (0, 0) hg] at h4
      rw [Array.set!_eq_setIfInBounds, Array.getElem?_setIfInBounds_ne (by omega)]
      exact h4
  · rw [List.getElem_set_ne (fun e' => e e'.symm)] at hu
    have hi : i < 6 := by have := (List.getElem?_eq_some_iff.1 hu).1; simpa [Ck.cells] using this
    obtain ⟨g2, o2, e3, h3⟩ := h m hm'
    cases e3
    have h4 := h3 i u hu
    rw [cell_of_row w g _ _ 78 (0, 0) hg] at h4
    rw [Array.set!_eq_setIfInBounds, Array.getElem?_setIfInBounds_ne (by omega)]
    exact h4
/-- A buffer with another chunk in a chunk's place. -/
def Sb.put (F : Sb) (k : Nat) (c : Ck) : Sb := { F with L := F.L.set k c }
theorem Sb.put_ok {F : Sb} (h : F.Ok) {k : Nat} (hk : k < F.L.length) {c : Ck} (hc : c.off = F.L[k].off ∧ c.bs = F.L[k].bs ∧ c.cap = F.L[k].cap ∧ c.fin = F.L[k].fin) (h0 : 0 ≤ c.on) (h1 : c.on ≤ 255) : (F.put k c).Ok := by
  obtain ⟨c1, c2, c3, c4⟩ := hc
  have hok := h.ck _ (List.getElem_mem hk)
  refine ⟨h.r0, h.r1, h.m0, h.m1, h.a0, h.a1, h.h0, h.h1, h.e1, h.fr, h.g0, h.g1, fun d hd => ?_, ?_, by unfold Sb.put; simpa using h.nl, fun hc d hd => ?_, fun d hd => ?_, fun i hi => ?_, fun d hd => ?_⟩
  · rcases List.mem_or_eq_of_mem_set hd with e | e
    · have := h.ck d e
      exact ⟨this.o0, this.ol, this.on0, this.on1, this.cap, this.capm, this.fin, this.few⟩
    · subst e
      exact ⟨by rw [c1]; exact hok.o0, by rw [c1, c2]; exact hok.ol, h0, h1, by rw [c2, c3]; exact hok.cap, by rw [c3]; exact hok.capm, by rw [c4, c2, c1]; exact hok.fin, by rw [c4, c2]; exact hok.few⟩
  · have hso := h.so
    rw [List.pairwise_iff_getElem] at hso ⊢
    have ho : ∀ i (hi : i < (F.L.set k c).length), ((F.L.set k c)[i]'hi).off = (F.L[i]'(by simpa using hi)).off := fun i hi => by
      by_cases e : k = i
      · subst e; rw [List.getElem_set_self, c1]
      · rw [List.getElem_set_ne e]
    intro i j hi hj hij
    show ((F.L.set k c)[i]'hi).off < ((F.L.set k c)[j]'hj).off
    rw [ho i hi, ho j hj]
    exact hso i j (by have : i < (F.L.set k c).length := hi; simpa using this) (by have : j < (F.L.set k c).length := hj; simpa using this) hij
  · rcases List.mem_or_eq_of_mem_set hd with e | e
    · exact h.cl hc d e
    · subst e; rw [c4]; exact h.cl hc _ (List.getElem_mem hk)
  · rcases List.mem_or_eq_of_mem_set hd with e | e
    · exact h.ak d e
    · subst e
      have := h.ak _ (List.getElem_mem hk)
      unfold Ck.behind at this ⊢
      rw [c4, c1, c2]
      exact this
  · have ho : ∀ i (hi : i < (F.L.set k c).length), ((F.L.set k c)[i]'hi).off = (F.L[i]'(by simpa using hi)).off ∧ ((F.L.set k c)[i]'hi).bs = (F.L[i]'(by simpa using hi)).bs := fun i hi => by
      by_cases e : k = i
      · subst e; rw [List.getElem_set_self, c1, c2]; exact ⟨rfl, rfl⟩
      · rw [List.getElem_set_ne e]; exact ⟨rfl, rfl⟩
    have hi' : i + 1 < (F.L.set k c).length := hi
    show ((F.L.set k c)[i]'(by omega)).off + (((F.L.set k c)[i]'(by omega)).bs.length : Int) = ((F.L.set k c)[i + 1]'hi').off
    rw [(ho i (by omega)).1, (ho i (by omega)).2, (ho (i + 1) hi').1]
    exact h.ch i (by simpa using hi')
  · have hd' : (F.L.set k c).getLast? = some d := hd
    rw [List.getLast?_eq_getElem?, List.length_set] at hd'
    have hn : F.L.length - 1 < F.L.length := by omega
    have hla := h.la F.L[F.L.length - 1] (by rw [List.getLast?_eq_getElem?]; exact List.getElem?_eq_getElem hn)
    by_cases e : k = F.L.length - 1
    · subst e
      rw [List.getElem?_set_self (by omega)] at hd'
      cases hd'
      rw [c1, c2]
      exact hla
    · rw [List.getElem?_set_ne e, List.getElem?_eq_getElem hn] at hd'
      cases hd'
      exact hla
theorem SbW.put {w : World} {p : Nat} {F : Sb} {g o cap : Nat} (h : SbW w p F (some ⟨g, o, none⟩) cap) {k : Nat} (hk : k < F.L.length) {c : Ck} {j : Nat} {v : Value} (hj : j < 6) (hc : c.cells = F.L[k].cells.set j v) (hca : c.a = F.L[k].a ∧ c.bs = F.L[k].bs) (hok : (F.put k c).Ok) :
    SbW (w.setCell ⟨g, o + k * 6 + j, none⟩ v) p (F.put k c) (some ⟨g, o, none⟩) cap ∧ Fr (fun x => x = g) w (w.setCell ⟨g, o + k * 6 + j, none⟩ v) := by
  obtain ⟨g', o', arr, e, hg, hs, hp⟩ := h.blk hk
  cases e
  have hfr : Fr (fun x => x = g) w (w.setCell ⟨g, o + k * 6 + j, none⟩ v) := ⟨rfl, rfl, rfl, by simp [World.setCell], fun x hx hn => Below.heap_setCell w _ v x hn⟩
  have hlc := h.r.lc
  have hl : (F.put k c).L.length = F.L.length := by unfold Sb.put; simp
  refine ⟨⟨⟨?_, h.r.ck.set hg hk hj hc (by omega), fun d hd => ?_, hok, by rw [hl]; exact h.r.lc, h.r.cm⟩, ?_, fun d hd => ?_⟩, hfr⟩
  · rw [hl]
    exact hfr.row h.r.row (fun e => hp e.symm)
  · have key : ∀ d ∈ F.L, BytesAt (w.setCell ⟨g, o + k * 6 + j, none⟩ v) d.a d.bs := fun d hd i hi => by
      obtain ⟨g2, o2, e2, c2⟩ := h.r.by_ d hd i hi
      exact ⟨g2, o2, e2, hfr.cell c2 (fun e3 => (h.ap d hd g2 o2 e2).2 g o rfl e3)⟩
    rcases List.mem_or_eq_of_mem_set hd with e | e
    · exact key d e
    · subst e
      rw [hca.1, hca.2]
      exact key _ (List.getElem_mem hk)
  · refine .inr ⟨g, o, arr.set! (o + k * 6 + j) v, rfl, ?_, by simpa using hs⟩
    rw [setCell_eq_setRow w g _ arr 78 (0, 0) v hg, setRow_heap w g _ _ 78 (0, 0) hg]
    first | rfl | simp
  · rcases List.mem_or_eq_of_mem_set hd with e | e
    · exact h.ap d e
    · subst e
      rw [hca.1]
      exact h.ap _ (List.getElem_mem hk)
end Go.Proofs.Ytnohammflhadpaa
