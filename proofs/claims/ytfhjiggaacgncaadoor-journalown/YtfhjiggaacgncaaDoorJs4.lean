import Derived.Test.YtfhjiggaacgncaaDoorJs2
namespace Go.Proofs.YtfhjiggaacgncaaDoor
open Go.RowKit Go.Maps Go.Sort
set_option maxRecDepth 100000

/-- The front of an own row is an own row. -/
theorem own_front {w : World} {base : Nat} {t : TypeId} {sz : Nat} {a : Option Addr} {n cap : Nat} {xs : List Value} (h : w.ownsRow base t sz (.slice a n cap) n xs) {k : Nat} (hk : k ≤ n) : w.ownsRow base t sz (.slice a k cap) k (xs.take (k * sz)) := by
  obtain ⟨hl, ⟨e, hn⟩ | ⟨g, c, cur, e, hb, hg, hnc, hcm, hcs, htk⟩⟩ := h
  · injection e with e1 e2 e3
    subst e1 e3
    obtain rfl : k = 0 := by omega
    exact ⟨by simp, .inl ⟨rfl, rfl⟩⟩
  · injection e with e1 e2 e3
    subst e1 e3
    have hm : k * sz ≤ n * sz := Nat.mul_le_mul_right _ hk
    refine ⟨by rw [List.length_take, hl]; omega, .inr ⟨g, cap, cur, rfl, hb, hg, Nat.le_trans hk hnc, hcm, hcs, ?_⟩⟩
    rw [← htk, List.take_take, Nat.min_eq_left hm]
theorem ownBlock_len (a : Option Addr) (n m c : Nat) : (Value.slice a n c).ownBlock = (Value.slice a m c).ownBlock := by
  cases a with
  | none => rfl
  | some ad => rfl
/-- The book cut back to its first k. -/
def Pb.cut (F : Pb) (k : Nat) (kv bv : Value) : Pb := ⟨F.b, kv, bv, F.V.take k⟩
theorem pb_cut {w : World} {base : Nat} {F : Pb} (h : PbAt w base F) {k : Nat} (hk : k ≤ F.V.length) {ka ba : Option Addr} {kc bc : Nat} (ek : F.kv = .slice ka F.V.length kc) (eb : F.bv = .slice ba F.V.length bc) :
    PbAt ((w.setCell ⟨F.b, 0, none⟩ (.slice ka k kc)).setCell ⟨F.b, 1, none⟩ (.slice ba k bc)) base (F.cut k (.slice ka k kc) (.slice ba k bc)) ∧ Fr (fun x => x = F.b) w ((w.setCell ⟨F.b, 0, none⟩ (.slice ka k kc)).setCell ⟨F.b, 1, none⟩ (.slice ba k bc)) ∧ (F.cut k (.slice ka k kc) (.slice ba k bc)).L = F.L.take k ∧ ∀ x, (F.cut k (.slice ka k kc) (.slice ba k bc)).Mem x → F.Mem x := by
  have hf := ((Fr.refl (fun x => x = F.b) w).setCell F.b 0 (.slice ka k kc) (.inl rfl)).setCell F.b 1 (.slice ba k bc) (.inl rfl)
  have ne : ∀ {t : TypeId} {sz : Nat} {v : Value} {m : Nat} {xs : List Value}, w.ownsRow base t sz v m xs → t ≠ 46 → ∀ x, v.ownBlock = some x → ¬ x = F.b := fun ho ht x e e' => by
    obtain ⟨cur, hg⟩ := own_blk ho e
    subst e'
    exact ht (cells_type hg h.row.at_)
  have hk1 := h.kinds
  have hb1 := h.bodies
  rw [ek] at hk1
  rw [eb] at hb1
  have hlen : (F.V.take k).length = k := by rw [List.length_take]; omega
  have hkc := own_front hk1 hk
  have hbc := own_front hb1 hk
  rw [Nat.mul_one] at hkc hbc
  refine ⟨⟨?_, h.hb, ?_, ?_, fun x hx => ?_, fun x hx g e => ?_⟩, hf, ?_, ?_⟩
  · exact (h.row.set 0 _).set 1 _
  · have := hf.own hkc (ne hkc (by decide))
    show World.ownsRow _ _ _ _ _ (F.V.take k).length (bcells ((F.V.take k).map (·.2.1)))
    rw [hlen, List.map_take, bcells_take]
    exact this
  · have := hf.own hbc (ne hbc (by decide))
    show World.ownsRow _ _ _ _ _ (F.V.take k).length ((F.V.take k).map (·.1))
    rw [hlen, List.map_take]
    exact this
  · have hx' := List.mem_of_mem_take hx
    exact hf.own (h.by_ x hx') (ne (h.by_ x hx') (by decide))
  · have := h.ap x (List.mem_of_mem_take hx) g e
    rw [ek, ownBlock_len ka F.V.length k] at this
    exact this
  · show (F.V.take k).map (·.2) = (F.V.map (·.2)).take k
    rw [List.map_take]
  · rintro x (e | e | e | ⟨y, hy, e⟩)
    · exact .inl e
    · exact .inr (.inl (by rw [ek, ownBlock_len ka F.V.length k]; exact e))
    · exact .inr (.inr (.inl (by rw [eb, ownBlock_len ba F.V.length k]; exact e)))
    · exact .inr (.inr (.inr ⟨y, List.mem_of_mem_take hy, e⟩))
end Go.Proofs.YtfhjiggaacgncaaDoor
