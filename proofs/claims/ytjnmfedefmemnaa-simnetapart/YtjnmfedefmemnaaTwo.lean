import Derived.Test.YtjnmfedefmemnaaPure3
import Derived.Test.YtjnmfedefmemnaaFit
namespace Go.Proofs.Ytjnmfedefmemnaa
open Go.RowKit Go.Maps
set_option maxRecDepth 100000

section
variable {B : Nat} {w w' : World} {p g n K : Nat} {vs vs' : Nat → Nat → Value} {fr fr' : Nat → Nat → List Fr} {D : Dat}
theorem NetP.lt (h : NetP B w p g n vs fr K D) : B ≤ w.heap.size := by
  obtain ⟨c, hG, _⟩ := h
  exact Nat.le_of_lt (Nat.lt_of_le_of_lt (hG.ge g (.roads rfl)) hG.row.lt)
theorem NetP.below (h : NetP B w p g n vs fr K D) (hs : Stays w w' g n vs vs' fr fr') : Below B w w' := by
  have hl := h.lt
  obtain ⟨c, hG, _⟩ := h
  obtain ⟨S, ho, hS⟩ := hs.only
  exact ho.below hl (fun x hx => hG.ge x (hS x hx))
end
/-- Two nets in one memory, all of both above what was there. -/
def Two (W w : World) (n p g p2 g2 K : Nat) (D E : Dat) : Prop := ∃ vs fr us er, NetP W.heap.size w p g n vs fr K D ∧ NetP W.heap.size w p2 g2 n us er K E ∧ Apart2 g n vs fr g2 n us er ∧ Below W.heap.size W w
section
variable {W w w' : World} {n p g p2 g2 K : Nat} {D E : Dat}
theorem Two.kept (h : Two W w n p g p2 g2 K D E) (hb : Below w.heap.size w w') : Two W w' n p g p2 g2 K D E := by
  obtain ⟨vs, fr, us, er, h1, h2, h3, h4⟩ := h
  exact ⟨vs, fr, us, er, h1.kept hb, h2.kept hb, h3, h4.trans (hb.mono h4.size)⟩
theorem Two.turn (h : Two W w n p g p2 g2 K D E) : Two W w n p2 g2 p g K E D := by
  obtain ⟨vs, fr, us, er, h1, h2, h3, h4⟩ := h
  exact ⟨us, er, vs, fr, h2, h1, fun x hx hx2 => h3 x hx2 hx, h4⟩
theorem Two.act (h : Two W w n p g p2 g2 K D E) (o : OpV) (hF : BytesAt w o.fa o.frame) (hm : o.frame.length ≤ 140737488351232) (hK : K < 281474976710656) :
    Calls Try.prog 22 #[.pointer (some ⟨p, 0, none⟩), .agg o.cells.toArray] w fun e w' => ∃ a m b got, e = .returned (.tuple #[.agg #[.slice a m m, .bool b], .bool got]) ∧ ActSays w w' D n o a m b got ∧ Two W w' n p g p2 g2 (K + 1) (D.act n o) E := by
  obtain ⟨vs, fr, us, er, h1, h2, h3, h4⟩ := h
  refine (act_any h1 o hF hm hK).mono ?_
  rintro e w' ⟨a, m, b, got, rfl, hs, vs', fr', hn, hst⟩
  obtain ⟨h2', h3'⟩ := h1.beside hst h2 h3
  exact ⟨a, m, b, got, rfl, hs, vs', fr', us, er, hn, h2'.more (Nat.le_succ K), h3', h4.trans (h1.below hst)⟩
theorem Two.look (h : Two W w n p g p2 g2 K D E) {k : Nat} (hk : k < n) :
    Calls Try.prog 15 #[.pointer (some ⟨p, 0, none⟩), .int .i64 k] w fun e w' => ∃ cv : List Value, e = .returned (.tuple #[.agg cv.toArray, .int .i64 0]) ∧ cv.length = 14 ∧ (∀ v ∈ cv, v.oneCell' = true) ∧ cv[0]? = some (.bool (D.up k)) ∧ cv[1]? = some (.int .i64 (D.cap k)) ∧ (∀ d, d < 2 → cv[2 + d]? = some (.int .i64 (D.fd k d).length)) ∧ (∀ i, 4 ≤ i → i < 14 → cv[i]? = some (.int .u64 (D.cn k i))) ∧ Below w.heap.size w w' := by
  obtain ⟨vs, fr, us, er, h1, h2, h3, h4⟩ := h
  exact h1.look hk
theorem Two.peek (h : Two W w n p g p2 g2 K D E) {k d j : Nat} (hk : k < n) (hd : d < 2) (hj : j < (D.fd k d).length) :
    Calls Try.prog 12 #[.pointer (some ⟨p, 0, none⟩), .int .i64 k, .int .i64 d, .int .i64 j] w fun e w' => ∃ g', e = .returned (.tuple #[.agg #[.slice (some ⟨g', 0, none⟩) (D.at k d j).1.length (D.at k d j).1.length, .bool (sp (D.at k d j).2 (D.at k d j).1.length)], .int .i64 0]) ∧ w.heap.size ≤ g' ∧ Row w' g' (bcells (xorT (D.at k d j).1 (D.at k d j).2)) 5 ∧ Below w.heap.size w w' := by
  obtain ⟨vs, fr, us, er, h1, h2, h3, h4⟩ := h
  exact h1.peek hk hd hj
end
/-- The data of a net as New gives it. -/
def newD (cs : List Int) : Dat := ⟨fun _ => true, fun k => cs.getD k 0, fun _ _ => 0, fun _ _ => []⟩
theorem datOf_new (cs : List Int) (n : Nat) (hn : cs.length = n) : DatOf n (roadsv cs) (fun _ _ => []) (newD cs) := by
  have at_ : ∀ k i, k < n → i < 16 → (roadsv cs)[k * 16 + i]? = (roadv (cs.getD k 0))[i]? := fun k i hk hi => by
    have hk' : k < cs.length := by omega
    have e : cs.getD k 0 = cs[k] := by rw [List.getD_eq_getElem?_getD, List.getElem?_eq_getElem hk']; rfl
    rw [roadsv_get cs k i hk' hi, e]
  exact
    { up := fun k hk => at_ k 0 hk (by decide)
      cap := fun k hk => at_ k 1 hk (by decide)
      cn := fun k i hk h4 h14 => by
        rw [at_ k i hk (by omega)]
        rcases (show i = 4 ∨ i = 5 ∨ i = 6 ∨ i = 7 ∨ i = 8 ∨ i = 9 ∨ i = 10 ∨ i = 11 ∨ i = 12 ∨ i = 13 by omega) with rfl | rfl | rfl | rfl | rfl | rfl | rfl | rfl | rfl | rfl <;> rfl
      fd := fun _ _ _ _ => rfl }
/-- Two nets that New gave, one behind the other. -/
theorem two_new {W w0 w1 w2 : World} {p g p2 g2 n : Nat} {cs : List Int} (hn : cs.length = n) (hg : ∀ c ∈ cs, goodCap c) (hW : Below W.heap.size W w0) (a1 : w0.heap.size ≤ g) (a2 : g < p) (R1 : Row w1 g (roadsv cs) 67) (N1 : Row w1 p [.slice (some ⟨g, 0, none⟩) n n] 52) (hb1 : Below w0.heap.size w0 w1)
    (b1 : w1.heap.size ≤ g2) (b2 : g2 < p2) (R2 : Row w2 g2 (roadsv cs) 67) (N2 : Row w2 p2 [.slice (some ⟨g2, 0, none⟩) n n] 52) (hb2 : Below w1.heap.size w1 w2) : Two W w2 n p g p2 g2 0 (newD cs) (newD cs) := by
  have h01 := hW.trans (hb1.mono hW.size)
  refine ⟨_, _, _, _, ⟨_, (netg_new hW.size hn hg a1 a2 R1 N1 0).kept hb2, datOf_new cs n hn⟩, ⟨_, netg_new h01.size hn hg b1 b2 R2 N2 0, datOf_new cs n hn⟩, fun x hx hx2 => ?_, h01.trans (hb2.mono h01.size)⟩
  have e1 : x = g := by
    cases hx with
    | roads e => exact e
    | bag k d hk hd hm => cases hm
    | parcel k d hk hd y hy e => cases hy
    | map k d hk hd y hy e => cases hy
  have e2 : x = g2 := by
    cases hx2 with
    | roads e => exact e
    | bag k d hk hd hm => cases hm
    | parcel k d hk hd y hy e => cases hy
    | map k d hk hd y hy e => cases hy
  have := R1.lt
  omega
end Go.Proofs.Ytjnmfedefmemnaa
