import Derived.Test.YtjpllcliehgnfaaDoorJ19
namespace Go.Proofs.YtjpllcliehgnfaaDoor
open Go.RowKit Go.Sort
set_option maxRecDepth 100000

section
variable {w : World} {p : Nat} {F : Hf} {f : Fo} {c : List Value}
theorem hear_join (hH : HfAt w p F) (hf : FrIn w f c) (hp : ¬ F.path = 0) (hfp : f.p = F.path) (hk : f.k = 7) (s0 : F.side = 1) (s1 : F.st = 0 ∨ F.st = 2) (ht : f.tok = tok F.own) (ho : F.own < 18446744073709551616) (hpp : 1 ≤ p) (hK : KTab w) (h2 : 1 ≤ w.heap.size) (now : Nat) :
    Calls Tryd.prog 15 #[.pointer (some ⟨p, 0, none⟩), .int .u64 (now : Int), .agg c.toArray] w (Ans w p { F with hd := f.non, st := 2, bk := f.bk, ag := 0, mrk := now } ({ F with hd := f.non, st := 2, bk := f.bk, ag := 0, mrk := now } : Hf).answer true) :=
  hear7 hH hf hp hfp hk now fun _ hb => hearJoin_yes (hH.kept hb) (hf.kept hb) s0 s1 ht ho hpp (hK.kept hb) (Nat.le_trans h2 hb.size) now
theorem hear_join_no (hH : HfAt w p F) (hf : FrIn w f c) (hp : ¬ F.path = 0) (hfp : f.p = F.path) (hk : f.k = 7) (hn : ¬ (F.side = 1 ∧ (F.st = 0 ∨ F.st = 2) ∧ f.tok = tok F.own)) (ho : F.own < 18446744073709551616) (hK : KTab w) (h2 : 1 ≤ w.heap.size) (now : Nat) :
    Calls Tryd.prog 15 #[.pointer (some ⟨p, 0, none⟩), .int .u64 (now : Int), .agg c.toArray] w (Ans w p F Fo.zero false) :=
  hear7 hH hf hp hfp hk now fun _ hb => hearJoin_no (hH.kept hb) (hf.kept hb) hn ho (hK.kept hb) (Nat.le_trans h2 hb.size) now
theorem hear_joined (hH : HfAt w p F) (hf : FrIn w f c) (hp : ¬ F.path = 0) (hfp : f.p = F.path) (hk : f.k = 8) (s0 : F.side = 0) (s1 : F.st = 1 ∨ F.st = 3) (hm : f.bs = (proofL F.peer F.own f.non (nonceOf F.own F.path)).take 8) (hpp : 1 ≤ p) (hK : KTab w) (h2 : 1 ≤ w.heap.size) (now : Nat) :
    Calls Tryd.prog 15 #[.pointer (some ⟨p, 0, none⟩), .int .u64 (now : Int), .agg c.toArray] w (Ans w p { F with st := 3 } (({ F with st := 3 } : Hf).proves f.non) true) :=
  hear8 hH hf hp hfp hk now fun _ hb => hearJoined_yes (hH.kept hb) (hf.kept hb) s0 s1 hm hpp (hK.kept hb) (Nat.le_trans h2 hb.size) now
theorem hear_joined_no (hH : HfAt w p F) (hf : FrIn w f c) (hp : ¬ F.path = 0) (hfp : f.p = F.path) (hk : f.k = 8) (hn : ¬ (F.side = 0 ∧ (F.st = 1 ∨ F.st = 3) ∧ f.bs = (proofL F.peer F.own f.non (nonceOf F.own F.path)).take 8)) (hK : KTab w) (h2 : 1 ≤ w.heap.size) (now : Nat) :
    Calls Tryd.prog 15 #[.pointer (some ⟨p, 0, none⟩), .int .u64 (now : Int), .agg c.toArray] w (Ans w p F Fo.zero false) :=
  hear8 hH hf hp hfp hk now fun _ hb => hearJoined_no (hH.kept hb) (hf.kept hb) hn (hK.kept hb) (Nat.le_trans h2 hb.size) now
theorem hear_prove (hH : HfAt w p F) (hf : FrIn w f c) (hp : ¬ F.path = 0) (hfp : f.p = F.path) (hk : f.k = 9) (s0 : F.st = 2) (hm : f.bs = (proofL F.peer F.own F.hd (nonceOf F.own F.path)).take 20) (hK : KTab w) (h2 : 1 ≤ w.heap.size) (now : Nat) :
    Calls Tryd.prog 15 #[.pointer (some ⟨p, 0, none⟩), .int .u64 (now : Int), .agg c.toArray] w (Ans w p { F with st := 3 } Fo.zero false) :=
  hear9 hH hf hp hfp hk now fun _ hb => hearProve_yes (hH.kept hb) (hf.kept hb) s0 hm (hK.kept hb) (Nat.le_trans h2 hb.size) now
theorem hear_prove_no (hH : HfAt w p F) (hf : FrIn w f c) (hp : ¬ F.path = 0) (hfp : f.p = F.path) (hk : f.k = 9) (hn : ¬ (F.st = 2 ∧ f.bs = (proofL F.peer F.own F.hd (nonceOf F.own F.path)).take 20)) (hK : KTab w) (h2 : 1 ≤ w.heap.size) (now : Nat) :
    Calls Tryd.prog 15 #[.pointer (some ⟨p, 0, none⟩), .int .u64 (now : Int), .agg c.toArray] w (Ans w p F Fo.zero false) :=
  hear9 hH hf hp hfp hk now fun _ hb => hearProve_no (hH.kept hb) (hf.kept hb) hn (hK.kept hb) (Nat.le_trans h2 hb.size) now
end
/-! Two Halves in one memory. -/
structure Tw (w : World) (p q : Nat) (A B : Hf) (x : World) : Prop where
  ha : HfAt x p A
  hb : HfAt x q B
  bel : Below w.heap.size w x
  ne : p < q
  ge : w.heap.size ≤ p
theorem Tw.kept {w x x' : World} {p q : Nat} {A B : Hf} (h : Tw w p q A B x) (hb : Below x.heap.size x x') : Tw w p q A B x' := ⟨h.ha.kept hb, h.hb.kept hb, h.bel.trans (hb.mono h.bel.size), h.ne, h.ge⟩
theorem Tw.onA {w x x' : World} {p q : Nat} {A A' B : Hf} (h : Tw w p q A B x) (ho : Only p x x') (ha : HfAt x' p A') : Tw w p q A' B x' := ⟨ha, ho.row h.hb (by have := h.ne; omega), h.bel.trans (ho.below h.bel.size h.ge), h.ne, h.ge⟩
theorem Tw.onB {w x x' : World} {p q : Nat} {A B B' : Hf} (h : Tw w p q A B x) (ho : Only q x x') (hb : HfAt x' q B') : Tw w p q A B' x' := ⟨ho.row h.ha (by have := h.ne; omega), hb, h.bel.trans (ho.below h.bel.size (by have := h.ne; have := h.ge; omega)), h.ne, h.ge⟩
theorem Tw.k {w x : World} {p q : Nat} {A B : Hf} (h : Tw w p q A B x) (hK : KTab w) : KTab x := hK.kept h.bel
theorem Tw.one {w x : World} {p q : Nat} {A B : Hf} (h : Tw w p q A B x) (h1 : 1 ≤ w.heap.size) : 1 ≤ x.heap.size := Nat.le_trans h1 h.bel.size
theorem Tw.lt {w x : World} {p q : Nat} {A B : Hf} (h : Tw w p q A B x) : q < x.heap.size := Row.lt h.hb
/-- A frame in a box of its own, its Mac somewhere beyond both Halves. -/
structure Bx (q g : Nat) (f : Fo) (m : Value) (x : World) : Prop where
  row : Row x g (frC f.k f.p f.tok f.non m f.bk) 29
  own : OwnB x (q + 1) m f.bs
  gt : q < g
theorem Bx.kept {q g : Nat} {f : Fo} {m : Value} {x x' : World} (h : Bx q g f m x) (hb : Below x.heap.size x x') : Bx q g f m x' := ⟨h.row.kept hb h.row.lt, h.own.kept hb, h.gt⟩
theorem Bx.only {q g r : Nat} {f : Fo} {m : Value} {x x' : World} (h : Bx q g f m x) (ho : Only r x x') (hr : r ≤ q) : Bx q g f m x' := ⟨ho.row h.row (by have := h.gt; omega), h.own.only ho (by omega), h.gt⟩
theorem Bx.frin {q g : Nat} {f : Fo} {m : Value} {x : World} (h : Bx q g f m x) : FrIn x f (frC f.k f.p f.tok f.non m f.bk) := by
  obtain ⟨a, n, rfl, hb, _, _⟩ := h.own.shape
  exact ⟨_, _, _, _, _, _, a, n, rfl, hb⟩
theorem Bx.slice {q g : Nat} {f : Fo} {m : Value} {x : World} (h : Bx q g f m x) : ∃ a n, m = .slice a f.bs.length n := by
  obtain ⟨a, n, e, _⟩ := h.own.shape
  exact ⟨a, n, e⟩
theorem frC_m {k p : Int} {tk non : BitVec 32} {m : Value} {bk : Bool} {x : World} {B : Nat} {bs : List (BitVec 8)} (h : OwnB x B m bs) : ∀ v ∈ frC k p tk non m bk, v.oneCell' = true := by
  obtain ⟨a, n, rfl, _⟩ := h.shape
  exact frC_one _ _ _ _ _ _ _ _
/-- The frame that a call has answered, laid into a new box. -/
theorem Bx.new {q : Nat} {f : Fo} {m : Value} {x : World} {B : Nat} (h : OwnB x B m f.bs) (hB : q < B) (hq : q < x.heap.size) : Bx q x.heap.size f m ((x.alloc (.cells frZ.toArray 29)).setRow x.heap.size (frC f.k f.p f.tok f.non m f.bk).toArray) :=
  ⟨(Row.new' x _ frZ 29 _ rfl rfl).row _, (h.kept (below_put x frZ _)).less hB, hq⟩
end Go.Proofs.YtjpllcliehgnfaaDoor
