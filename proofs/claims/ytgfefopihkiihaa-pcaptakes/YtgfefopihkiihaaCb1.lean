import Derived.Test.YtgfefopihkiihaaCb0
namespace Go.Proofs.Ytgfefopihkiihaa
open Go.RowKit Go.Maps
set_option maxRecDepth 100000

theorem EvsOwn.at_ {w : World} {b : Nat} {v : Value} {L : List Evt} (h : EvsOwn w b v L) (hc : ∀ e ∈ L, 0 ≤ e.clock ∧ e.clock < 18446744073709551616 ∧ e.bs.length ≤ 140737488355328) : ∃ a c, v = .slice a L.length c ∧ EvsAt w a L := by
  obtain ⟨a, c, e, hr, -⟩ := own_row_at ecells_len h.row
  refine ⟨a, c, e, hr, fun x hx => ?_⟩
  obtain ⟨a', c', e', hB, _, _, hz, _⟩ := ownBy_shape (h.by_ x hx)
  simp only [Evt.val, Value.slice.injEq] at e'
  obtain ⟨h1, h2, h3⟩ := hc x hx
  exact ⟨e'.1 ▸ hB, h3, h1, h2, fun hn => by rw [e'.2.2]; exact hz (e'.1 ▸ hn)⟩
theorem PksOwn.row_ {w : World} {b : Nat} {v : Value} {L : List Pkt} (h : PksOwn w b v L) : ∃ a c, v = .slice a L.length c ∧ PksRd w a L := by
  obtain ⟨a, c, e, hr, -⟩ := own_row_at pcells_len h.row
  refine ⟨a, c, e, hr, fun x hx => ?_⟩
  obtain ⟨a', c', e', hB, _⟩ := ownBy_shape (h.by_ x hx)
  simp only [Pkt.val, Value.slice.injEq] at e'
  exact e'.1 ▸ hB
/-- Own events that are written over: those from number i on still stand in the row. -/
structure WpI (b B1 : Nat) (w0 wx : World) (a : Option Addr) (L : List Evt) (i : Nat) : Prop where
  fr : Fr (fun k => b ≤ k ∧ k < B1) w0 wx
  ev : ∀ j e, i ≤ j → L[j]? = some e → ∃ g Y, a = some ⟨g, 0, none⟩ ∧ b ≤ g ∧ g < B1 ∧ Row wx g Y 33 ∧ j * 5 + 5 ≤ Y.length ∧ Y[j * 5 + 4]? = some e.val
  by_ : ∀ e ∈ L, ∀ g o, e.fa = some ⟨g, o, none⟩ → o = 0 ∧ b ≤ g ∧ g < B1 ∧ ∃ Z, Row wx g Z 5 ∧ e.bs.length ≤ Z.length
  nil : ∀ e ∈ L, ∀ k, k < e.bs.length → ∃ g, e.fa = some ⟨g, 0, none⟩
theorem row_ne {w : World} {g g' : Nat} {c c' : List Value} {t t' : TypeId} (h : Row w g c t) (h' : Row w g' c' t') (ht : t ≠ t') : g ≠ g' := fun e => by
  subst e
  exact ht (cells_type h.at_ h'.at_)
theorem WpI.start {b : Nat} {w2 w3 : World} {a : Option Addr} {n c : Nat} {L : List Evt} (h : EvsOwn w2 b (.slice a n c) L) (hb : Below w2.heap.size w2 w3) : WpI b w2.heap.size w3 w3 a L 0 := by
  refine ⟨Fr.refl _ _, fun j e _ he => ?_, fun e he g o eg => ?_, fun e he k hk => ?_⟩
  · have hj := (List.getElem?_eq_some_iff.1 he).1
    obtain ⟨_, ⟨e1, hn⟩ | ⟨g, cap, cur, e1, hbg, hg, hnc, hcm, hcs, htk⟩⟩ := h.row
    · omega
    · simp only [Value.slice.injEq] at e1
      have hgl : g < w2.heap.size := (Array.getElem?_eq_some_iff.1 hg).1
      have hR : Row w2 g cur.toList 33 := ⟨by simpa using hg⟩
      refine ⟨g, cur.toList, e1.1, hbg, hgl, hR.kept hb hgl, ?_, ?_⟩
      · have : (j + 1) * 5 ≤ cap * 5 := Nat.mul_le_mul_right 5 (by omega)
        simp only [Array.length_toList, hcs]
        omega
      · have h1 := flat_get ecells_len he (j := 4) (v := e.val) rfl
        rw [← htk, List.getElem?_take, if_pos (by omega)] at h1
        exact h1
  · obtain ⟨a', c', e', _, h1, _, _, h2⟩ := ownBy_shape (h.by_ e he)
    simp only [Evt.val, Value.slice.injEq] at e'
    obtain ⟨h3, h4, cur, h5, h6⟩ := h2 g o (e'.1 ▸ eg)
    have hgl : g < w2.heap.size := (Array.getElem?_eq_some_iff.1 h5).1
    have hR : Row w2 g cur.toList 5 := ⟨by simpa using h5⟩
    exact ⟨h4, h3, hgl, cur.toList, hR.kept hb hgl, by simp only [Array.length_toList, h6]; exact h1⟩
  · obtain ⟨a', c', e', h0, _, _, _, h2⟩ := ownBy_shape (h.by_ e he)
    simp only [Evt.val, Value.slice.injEq] at e'
    obtain ⟨g, o, e1, _⟩ := h0 k hk
    obtain ⟨_, h4, _⟩ := h2 g o e1
    exact ⟨g, by rw [e'.1, e1, h4]⟩
section
variable {b B1 : Nat} {w0 wx : World} {a : Option Addr} {L : List Evt} {i : Nat}
theorem WpI.more (h : WpI b B1 w0 wx a L i) : WpI b B1 w0 wx a L (i + 1) := ⟨h.fr, fun j e hj he => h.ev j e (by omega) he, h.by_, h.nil⟩
theorem WpI.setB (h : WpI b B1 w0 wx a L i) {g k : Nat} {Z : List Value} (hR : Row wx g Z 5) (h1 : b ≤ g) (h2 : g < B1) (v : Value) : WpI b B1 w0 (wx.setCell ⟨g, k, none⟩ v) a L i := by
  refine ⟨h.fr.setCell g k v (.inl ⟨h1, h2⟩), fun j e hj he => ?_, fun e he g' o eg => ?_, h.nil⟩
  · obtain ⟨g', Y, e1, e2, e3, e4, e5, e6⟩ := h.ev j e hj he
    exact ⟨g', Y, e1, e2, e3, e4.setOther ⟨g, k, none⟩ (row_ne e4 hR (by decide)) v, e5, e6⟩
  · obtain ⟨e1, e2, e3, Z', e4, e5⟩ := h.by_ e he g' o eg
    by_cases hg : g' = g
    · subst hg
      exact ⟨e1, e2, e3, Z'.set k v, e4.set k v, by rw [List.length_set]; exact e5⟩
    · exact ⟨e1, e2, e3, Z', e4.setOther ⟨g, k, none⟩ hg v, e5⟩
theorem WpI.setC (h : WpI b B1 w0 wx a L i) {g m : Nat} (ha : a = some ⟨g, 0, none⟩) {Y0 : List Value} (hR : Row wx g Y0 33) (h1 : b ≤ g) (h2 : g < B1) (hm : m < i * 5) (v : Value) : WpI b B1 w0 (wx.setCell ⟨g, m, none⟩ v) a L i := by
  refine ⟨h.fr.setCell g m v (.inl ⟨h1, h2⟩), fun j e hj he => ?_, fun e he g' o eg => ?_, h.nil⟩
  · obtain ⟨g', Y, e1, e2, e3, e4, e5, e6⟩ := h.ev j e hj he
    rw [ha] at e1
    injection e1 with e1
    injection e1 with e1
    subst e1
    have hij : i * 5 ≤ j * 5 := Nat.mul_le_mul_right 5 hj
    exact ⟨g, Y.set m v, ha, e2, e3, e4.set m v, by rw [List.length_set]; exact e5, by rw [List.getElem?_set_ne (by omega)]; exact e6⟩
  · obtain ⟨e1, e2, e3, Z', e4, e5⟩ := h.by_ e he g' o eg
    exact ⟨e1, e2, e3, Z', e4.setOther ⟨g, m, none⟩ (row_ne e4 hR (by decide)) v, e5⟩
end
end Go.Proofs.Ytgfefopihkiihaa
