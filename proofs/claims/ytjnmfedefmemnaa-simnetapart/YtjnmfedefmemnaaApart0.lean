import Derived.Test.YtjnmfedefmemnaaTwo
import Derived.Test.YtjnmfedefmemnaaAlive
import Derived.Test.YtjnmfedefmemnaaSame
namespace Go.Proofs.Ytjnmfedefmemnaa
open Go.RowKit Go.Maps
set_option maxRecDepth 100000

/-- What act answers, as it hangs on the data. -/
def Dat.hit (D : Dat) (n : Nat) (o : OpV) : Bool := decide (o.kind = 2 ∧ D.err n o.path o.dir o.k true = 0)
def Dat.ansB (D : Dat) (n : Nat) (o : OpV) : List (BitVec 8) := if D.hit n o then xorT (D.at o.path o.dir o.k).1 (D.at o.path o.dir o.k).2 else []
def Dat.ansS (D : Dat) (n : Nat) (o : OpV) : Bool := if D.hit n o then sp (D.at o.path o.dir o.k).2 (D.at o.path o.dir o.k).1.length else false
/-- Bytes that were handed out, in a row of their own (or none). -/
structure Ans (w : World) (a : Option Addr) (bs : List (BitVec 8)) : Prop where
  at_ : bs = [] ∨ ∃ g', a = some ⟨g', 0, none⟩ ∧ Row w g' (bcells bs) 5
theorem Ans.bytes {w : World} {a : Option Addr} {bs : List (BitVec 8)} (h : Ans w a bs) : BytesAt w a bs := by
  rcases h.at_ with rfl | ⟨g', rfl, r⟩
  · exact BytesAt_nil _ _
  · exact r.bytes
/-- All rows of other types than the net's own stay. -/
def Spares (w w' : World) : Prop := ∀ (x : Nat) (cc : List Value) (t : TypeId), t ≠ 67 → t ≠ 73 → t ≠ 84 → Row w x cc t → Row w' x cc t
theorem Spares.of_below {w w' : World} (hb : Below w.heap.size w w') : Spares w w' := fun _ _ _ _ _ _ r => r.kept hb r.lt
theorem Spares.trans {w w' w'' : World} (h : Spares w w') (k : Spares w' w'') : Spares w w'' := fun x cc t h1 h2 h3 r => k x cc t h1 h2 h3 (h x cc t h1 h2 h3 r)
theorem Ans.spared {w w' : World} {a : Option Addr} {bs : List (BitVec 8)} (h : Ans w a bs) (s : Spares w w') : Ans w' a bs :=
  ⟨h.at_.imp id fun ⟨g', e, r⟩ => ⟨g', e, s _ _ _ (by decide) (by decide) (by decide) r⟩⟩
theorem ActSays.ans {w w' : World} {D : Dat} {n : Nat} {o : OpV} {a : Option Addr} {m : Nat} {b got : Bool} (h : ActSays w w' D n o a m b got) :
    m = (D.ansB n o).length ∧ b = D.ansS n o ∧ got = D.hit n o ∧ Ans w' a (D.ansB n o) := by
  have hg : got = D.hit n o := by
    unfold Dat.hit
    rw [Bool.eq_iff_iff, decide_eq_true_iff]
    exact h.says
  cases got with
  | true =>
    obtain ⟨rfl, rfl, g', rfl, _, r⟩ := h.frame rfl
    unfold Dat.ansB Dat.ansS
    rw [← hg]
    simp only [if_true]
    exact ⟨by rw [xorT_len], trivial, trivial, ⟨.inr ⟨g', rfl, r⟩⟩⟩
  | false =>
    obtain ⟨rfl, rfl, rfl⟩ := h.nought rfl
    unfold Dat.ansB Dat.ansS
    rw [← hg]
    exact ⟨rfl, rfl, rfl, ⟨.inl rfl⟩⟩
theorem SameAt.hit {k d n : Nat} {D E : Dat} (h : SameAt k d D E) (o : OpV) (hp : o.path = k) (hd : o.kind = 6 ∨ o.dir = d) : D.hit n o = E.hit n o ∧ D.ansB n o = E.ansB n o ∧ D.ansS n o = E.ansS n o := by
  by_cases h2 : o.kind = 2
  · have hd : o.dir = d := hd.resolve_left (by omega)
    have e1 : D.hit n o = E.hit n o := by
      unfold Dat.hit
      rw [hp, hd, h.err]
    have e2 : D.at o.path o.dir o.k = E.at o.path o.dir o.k := by rw [hp, hd]; exact h.at_ _
    exact ⟨e1, by unfold Dat.ansB; rw [e1, e2], by unfold Dat.ansS; rw [e1, e2]⟩
  · have e : ∀ X : Dat, X.hit n o = false := fun X => decide_eq_false (fun e => h2 e.1)
    exact ⟨by rw [e, e], by unfold Dat.ansB; rw [e, e]; rfl, by unfold Dat.ansS; rw [e, e]; rfl⟩
theorem SameAt.trans {k d : Nat} {D E F : Dat} (h : SameAt k d D E) (j : SameAt k d E F) : SameAt k d D F := ⟨h.up.trans j.up, h.cap.trans j.cap, fun i hi => (h.cn i hi).trans (j.cn i hi), h.fd.trans j.fd⟩
section
variable {W w w' : World} {n p g p2 g2 K : Nat} {D E : Dat}
theorem Two.bel (h : Two W w n p g p2 g2 K D E) : Below W.heap.size W w := by
  obtain ⟨vs, fr, us, er, h1, h2, h3, h4⟩ := h
  exact h4
theorem Two.len (h : Two W w n p g p2 g2 K D E) {k d : Nat} (hk : k < n) (hd : d < 2) : (D.fd k d).length ≤ 1073741824 := by
  obtain ⟨vs, fr, us, er, ⟨c, hG, hD⟩, h2, h3, h4⟩ := h
  have := hG.len30 hk hd
  rw [← hD.fd k d hk hd, List.length_map]
  simpa using this
theorem Two.act2 (h : Two W w n p g p2 g2 K D E) (o : OpV) (hF : BytesAt w o.fa o.frame) (hm : o.frame.length ≤ 140737488351232) (hK : K < 281474976710656) :
    Calls Try.prog 22 #[.pointer (some ⟨p, 0, none⟩), .agg o.cells.toArray] w fun e w' => ∃ a, e = .returned (.tuple #[.agg #[.slice a (D.ansB n o).length (D.ansB n o).length, .bool (D.ansS n o)], .bool (D.hit n o)]) ∧ Ans w' a (D.ansB n o) ∧ Spares w w' ∧ Two W w' n p g p2 g2 (K + 1) (D.act n o) E := by
  obtain ⟨vs, fr, us, er, h1, h2, h3, h4⟩ := h
  refine (act_any h1 o hF hm hK).mono ?_
  rintro e w' ⟨a, m, b, got, rfl, hs, vs', fr', hn, hst⟩
  obtain ⟨h2', h3'⟩ := h1.beside hst h2 h3
  obtain ⟨rfl, rfl, rfl, ha⟩ := hs.ans
  exact ⟨a, rfl, ha, fun x cc t n1 n2 n3 r => h1.rowKept hst r n1 n2 n3, vs', fr', us, er, hn, h2'.more (Nat.le_succ K), h3', h4.trans (h1.below hst)⟩
end
end Go.Proofs.Ytjnmfedefmemnaa
