import Derived.Test.YtoeldomhkeancaaQu0
import Derived.Test.YtoeldomhkeancaaTu1
namespace Go.Proofs.Ytoeldomhkeancaa
open Go.RowKit Go.Maps
set_option maxRecDepth 100000

section
variable {base i p q : Nat} {K M K' : Lk} {w w' : World}
/-- Another link is not in a call's way. -/
theorem Lw.other (h2 : Lw base i q M w) (hK : LkAt w p K) (hL : Lm p K w K' w') (hap : ∀ k, Foot p K k → ¬ Foot q M k) : Lw base i q M w' :=
  ⟨h2.at_.kept hL.fr (fun k hk hS => by
    rcases hk with e | e | e | ⟨x, hx, e⟩
    · exact hap k hS e
    · exact hK.apart h2.at_.lo (by decide) (by decide) (by decide) k e hS
    · exact hK.apart h2.at_.ji (by decide) (by decide) (by decide) k e hS
    · exact hK.apart (h2.at_.by_ x hx) (by decide) (by decide) (by decide) k e hS), h2.ok, h2.foot, Nat.le_trans h2.bw hL.fr.size, h2.put, h2.l0, h2.f0, h2.c0, h2.cons, h2.nums, h2.nd⟩
theorem ap_turn (h2 : LkAt w q M) (hL : Lm p K w K' w') (hap : ∀ k, Foot p K k → ¬ Foot q M k) : ∀ k, Foot p K' k → ¬ Foot q M k := fun k hk hm => by
  rcases hL.gr k hk with e | e
  · exact hap k e hm
  · have := h2.lt (.inl hm); omega
theorem Lw.more {j : Nat} (h : Lw base i p K w) (hij : i ≤ j) : Lw base j p K w := ⟨h.at_, h.ok, h.foot, h.bw, by have := h.put; omega, h.l0, h.f0, h.c0, h.cons, h.nums, h.nd⟩
end
/-- Two links of one configuration, and what came early of the first. -/
structure Qm (base i p q : Nat) (K M : Lk) (v : Value) (xs : List (It Value)) (t : Int) (w : World) : Prop where
  l : Lw base i p K w
  m : Lw base i q M w
  ap : ∀ k, Foot p K k → ¬ Foot q M k
  two : QuI K M (xs.map It.key) t
  row : w.ownsRow base 55 3 v xs.length (flatI xs)
  by_ : ∀ x ∈ xs, x.num < K.put ∧ OwnBy w 0 x.what (K.D x.num)
section
variable {base i p q : Nat} {K M : Lk} {v : Value} {xs : List (It Value)} {t : Int} {w w' : World}
theorem Qm.below (h : Qm base i p q K M v xs t w) (hb : Below w.heap.size w w') : Qm base i p q K M v xs t w' :=
  ⟨h.l.below hb, h.m.below hb, h.ap, h.two, own_below h.row hb, fun x hx => ⟨(h.by_ x hx).1, own_below (h.by_ x hx).2 hb⟩⟩
theorem Qm.more {j : Nat} (h : Qm base i p q K M v xs t w) (hij : i ≤ j) : Qm base j p q K M v xs t w := ⟨h.l.more hij, h.m.more hij, h.ap, h.two, h.row, h.by_⟩
/-- The first call of Put: what stands behind it, whichever link it is. -/
structure Hf (base i p q : Nat) (K M K1 K' : Lk) (t' : Int) (bs : List (BitVec 8)) (ok : Bool) (w w1 : World) : Prop where
  l : Lw base (i + 1) p K' w1
  m : Lw base i q M w1
  ap : ∀ k, Foot p K' k → ¬ Foot q M k
  go : GoE K t' K1
  put : PutQ K K1 K' bs ok
  lm : Lm p K w K' w1
theorem half {K M : Lk} (hl : Lw base i p K w) (hm : Lw base i q M w) (hap : ∀ k, Foot p K k → ¬ Foot q M k) {t' : Int} {bs : List (BitVec 8)} {e : Ending} (hP : PutR base i p K t' bs w e w') : ∃ K1 K' ok, e = .returned (.bool ok) ∧ Hf base i p q K M K1 K' t' bs ok w w' := by
  obtain ⟨K1, K', h1, h2, h3, h4, h5, h6, hc⟩ := hP
  have hm' := hm.other hl.at_ h3 hap
  have ha := ap_turn hm.at_ h3 hap
  rcases hc with h | h | h
  · exact ⟨K1, K', false, h.1, h1, hm', ha, h4, .inl ⟨rfl, h.2⟩, h3⟩
  · exact ⟨K1, K', false, h.1, h1, hm', ha, h4, .inr (.inl ⟨rfl, h.2⟩), h3⟩
  · exact ⟨K1, K', true, h.1, h1, hm', ha, h4, .inr (.inr ⟨rfl, h.2⟩), h3⟩
theorem own_lm {K K' : Lk} (hK : LkAt w p K) (hL : Lm p K w K' w') {b : Nat} {tt : TypeId} {sz : Nat} {u : Value} {n : Nat} {ys : List Value} (ho : w.ownsRow b tt sz u n ys) (h1 : tt ≠ 38) (h2 : tt ≠ 87) (h3 : tt ≠ 70) : w'.ownsRow b tt sz u n ys :=
  hL.fr.own ho (hK.apart ho h1 h2 h3)
theorem putq_D {K K1 K' : Lk} {t' : Int} {bs : List (BitVec 8)} {ok : Bool} (hG : GoE K t' K1) (h : PutQ K K1 K' bs ok) : K'.put = K.put + 1 ∧ ∀ k, k < K.put → K'.D k = K.D k := by
  obtain ⟨a1, a2, a3, a4, a5, a6, a7, a8, a9, a10⟩ := hG.fields
  rcases h with ⟨_, _, rfl⟩ | ⟨_, _, _, rfl⟩ | ⟨_, _, _, hs⟩
  · exact ⟨rfl, fun k _ => congrFun a9 k⟩
  · exact ⟨rfl, fun k _ => congrFun a9 k⟩
  · obtain ⟨b1, b2, b3, b4, b5, b6, b7, b8, b9⟩ := hs.fields
    refine ⟨b6, fun k hk => ?_⟩
    rw [b9]
    show (if k = K.put then bs else K1.D k) = _
    rw [if_neg (by omega)]
    exact congrFun a9 k
/-- Put on both, the first link first. -/
theorem Qm.put_lm {K1 K' M1 M' : Lk} {t' : Int} {bs : List (BitVec 8)} {ok ok' : Bool} {w1 w2 : World} (h : Qm base i p q K M v xs t w) (ht : t ≤ t') (h1 : Hf base i p q K M K1 K' t' bs ok w w1) (hm2 : Lw base (i + 1) q M' w2) (g2 : GoE M t' M1) (c2 : PutQ M M1 M' bs ok') (l2 : Lm q M w1 M' w2) : ok = ok' ∧ Qm base (i + 1) p q K' M' v xs t' w2 := by
  obtain ⟨e, hq⟩ := h.two.put_both ht h1.go g2 h1.put c2
  have hd := putq_D h1.go h1.put
  have ha' : ∀ k, Foot q M k → ¬ Foot p K' k := fun k a b => h1.ap k b a
  refine ⟨e, h1.l.other h1.m.at_ l2 ha', hm2, fun k a b => ap_turn h1.l.at_ l2 ha' k b a, hq, own_lm h1.m.at_ l2 (own_lm h.l.at_ h1.lm h.row (by decide) (by decide) (by decide)) (by decide) (by decide) (by decide), fun x hx => ?_⟩
  obtain ⟨b1, b2⟩ := h.by_ x hx
  refine ⟨by omega, ?_⟩
  rw [hd.2 _ b1]
  exact own_lm h1.m.at_ l2 (own_lm h.l.at_ h1.lm b2 (by decide) (by decide) (by decide)) (by decide) (by decide) (by decide)
/-- Put on both, the second link first. -/
theorem Qm.put_ml {K1 K' M1 M' : Lk} {t' : Int} {bs : List (BitVec 8)} {ok ok' : Bool} {w1 w2 : World} (h : Qm base i p q K M v xs t w) (ht : t ≤ t') (h1 : Hf base i q p M K M1 M' t' bs ok' w w1) (hl2 : Lw base (i + 1) p K' w2) (g2 : GoE K t' K1) (c2 : PutQ K K1 K' bs ok) (l2 : Lm p K w1 K' w2) : ok = ok' ∧ Qm base (i + 1) p q K' M' v xs t' w2 := by
  obtain ⟨e, hq⟩ := h.two.put_both ht g2 h1.go c2 h1.put
  have hd := putq_D g2 c2
  have ha' : ∀ k, Foot p K k → ¬ Foot q M' k := fun k a b => h1.ap k b a
  refine ⟨e, hl2, h1.l.other h1.m.at_ l2 ha', ap_turn h1.l.at_ l2 ha', hq, own_lm h1.m.at_ l2 (own_lm h.m.at_ h1.lm h.row (by decide) (by decide) (by decide)) (by decide) (by decide) (by decide), fun x hx => ?_⟩
  obtain ⟨b1, b2⟩ := h.by_ x hx
  refine ⟨by omega, ?_⟩
  rw [hd.2 _ b1]
  exact own_lm h1.m.at_ l2 (own_lm h.m.at_ h1.lm b2 (by decide) (by decide) (by decide)) (by decide) (by decide) (by decide)
end
end Go.Proofs.Ytoeldomhkeancaa
