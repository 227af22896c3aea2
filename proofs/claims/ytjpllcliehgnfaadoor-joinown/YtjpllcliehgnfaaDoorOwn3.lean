import Derived.Test.YtjpllcliehgnfaaDoorJ13
import Derived.Test.YtjpllcliehgnfaaDoorJ22
import Derived.Test.YtjpllcliehgnfaaDoorTx4
namespace Go.Proofs.YtjpllcliehgnfaaDoor
open Go.RowKit Go.Sort
set_option maxRecDepth 100000

theorem ofD {k p : Int} {tk non : BitVec 32} {d m : Value} {bk : Bool} {f : Fo} {w : World} {a : Option Addr} {n : Nat} (hk : f.k = k) (hp : f.p = p) (ht : f.tok = tk) (hn : f.non = non) (hb : f.bk = bk) (hm : m = .slice a f.bs.length n) (hB : BytesAt w a f.bs) : FrIn w f (frD k p tk non d m bk) := by
  subst hk hp ht hn hb hm
  exact ⟨_, _, _, _, _, _, a, n, rfl, hB⟩
/-- All is still what it was; only the kept rows are turned. -/
theorem tb_good {B b m : Nat} {w : World} {X : List Value} (h : Tx.TB B b m w X) (hmm : m ≤ 140737488355200) (hX : X.length ≤ 1000000000000) :
    Calls Tryd.prog 22 #[.pointer (some ⟨b, 0, none⟩)] w fun e w' => e = .returned (.bool true) ∧ (∀ t, t ≠ 5 → Tx.Stay t w w') ∧ Below B w w' ∧ Tx.Gone w w' X := by
  obtain ⟨lv, wv, Y, C, k1, k2, k3, k4, k5⟩ := h.ex
  refine (Tx.good_any k1 k2 k3 (fun i hi => ?_) hX h.le (fun j hj => Nat.le_trans (k5 j hj) hmm)).mono ?_
  · have hi' : i < Y.length := by omega
    obtain ⟨a, c, e, hC⟩ := Tx.own_cells (k4 i hi')
    exact ⟨a, c, by rw [List.getElem?_eq_getElem hi', e], hC⟩
  · rintro e w' ⟨rfl, hG⟩
    refine ⟨rfl, fun t ht k cs hk => hG.far k3 hk ht, ⟨hG.os, hG.tape, hG.output, hG.size, fun k hk => hG.block k (Nat.lt_of_lt_of_le hk h.le) (fun v hv e => ?_)⟩, hG⟩
    obtain ⟨i, hi, rfl⟩ := List.getElem_of_mem hv
    have := Tx.own_ge (k3.row i hi) e
    omega
theorem row_stay {w w' : World} {g : Nat} {c : List Value} {t : TypeId} (h : Row w g c t) (hs : Tx.Stay t w w') : Row w' g c t := ⟨hs g _ h.at_⟩
theorem ownB_gone {w w' : World} {B : Nat} {v : Value} {bs : List (BitVec 8)} {X : List Value} (h : OwnB w B v bs) (hg : Tx.Gone w w' X) (hne : ∀ g, v.ownBlock = some g → ∀ u ∈ X, u.ownBlock ≠ some g) : OwnB w' B v bs := by
  refine ⟨h.1, ?_⟩
  rcases h.2 with h0 | ⟨g, cap, cur, hv, h1, h2, h3⟩
  · exact .inl h0
  · refine .inr ⟨g, cap, cur, hv, h1, ?_, h3⟩
    exact (hg.block g (Array.getElem?_eq_some_iff.1 h2).1 (fun u hu => hne g (by rw [hv]; rfl) u hu)).trans h2
/-- A Mac lies between two boxes. -/
def Btw (lo hi : Nat) (m : Value) : Prop := ∀ g, m.ownBlock = some g → lo < g ∧ g < hi
theorem btw_of {x x' : World} {lo : Nat} {m : Value} {bs : List (BitVec 8)} (ho : OwnB x' x.heap.size m bs) (hl : lo < x.heap.size) : Btw lo x'.heap.size m := fun g e => by
  have h1 := Tx.own_ge ho e
  have h2 := Tx.own_lt ho e
  omega
theorem btw_ne {l1 h1 l2 h2 : Nat} {m m' : Value} (a : Btw l1 h1 m) (b : Btw l2 h2 m') (h : h1 ≤ l2) : ∀ g, m.ownBlock = some g → m'.ownBlock ≠ some g := fun g e e' => by
  have := a g e
  have := b g e'
  omega
/-- Both Halves, the boxes and the book of Macs. -/
structure Kp (w x : World) (p q bk : Nat) (A B : Hf) (L : List (Nat × Fo × Value)) (X : List Value) : Prop where
  tw : Tw w p q A B x
  bx : ∀ y ∈ L, Bx q y.1 y.2.1 y.2.2 x
  tb : Tx.TB w.heap.size bk 20 x X
section
variable {w x x' : World} {p q bk : Nat} {A B : Hf} {L : List (Nat × Fo × Value)} {X : List Value}
theorem Kp.new (h : Tw w p q A B x) (hL : ∀ y ∈ L, Bx q y.1 y.2.1 y.2.2 x) : Kp w (x.alloc (.cells #[.slice none 0 0, .slice none 0 0] 51)) p q x.heap.size A B L [] := by
  have hb := below_new x (.cells #[.slice none 0 0, .slice none 0 0] 51)
  exact ⟨h.kept hb, fun y hy => (hL y hy).kept hb, Tx.TB.new x h.bel.size⟩
theorem Tw.stay (h : Tw w p q A B x) (h57 : Tx.Stay 57 x x') (hb : Below w.heap.size x x') : Tw w p q A B x' := ⟨row_stay h.ha h57, row_stay h.hb h57, h.bel.trans hb, h.ne, h.ge⟩
theorem Kp.keep (h : Kp w x p q bk A B L X) {y : Nat × Fo × Value} (hy : y ∈ L) (hl : y.2.1.bs.length ≤ 20) (hX : X.length ≤ 1000) (hne : ∀ u ∈ X, ∀ g, u.ownBlock = some g → y.2.2.ownBlock ≠ some g) :
    Calls Tryd.prog 21 #[.pointer (some ⟨bk, 0, none⟩), y.2.2] x fun e w' => e = .returned (.tuple #[]) ∧ Kp w w' p q bk A B L (X ++ [y.2.2]) := by
  have hge : w.heap.size ≤ q + 1 := by have := h.tw.ge; have := h.tw.ne; omega
  refine (h.tb.keep (Tx.own_less (h.bx y hy).own hge) (fun j hj g e => hne _ (List.getElem_mem hj) g e) hl (by decide) (by omega)).mono ?_
  rintro e w' ⟨rfl, k1, k2, k3⟩
  refine ⟨rfl, h.tw.stay (k2 57 (by decide) (by decide)) k3, fun z hz => ?_, k1⟩
  have hz' := h.bx z hz
  exact ⟨row_stay hz'.row (k2 29 (by decide) (by decide)), Tx.own_stay hz'.own (k2 5 (by decide) (by decide)), hz'.gt⟩
theorem Kp.kept (h : Kp w x p q bk A B L X) (hb : Below x.heap.size x x') : Kp w x' p q bk A B L X := ⟨h.tw.kept hb, fun y hy => (h.bx y hy).kept hb, h.tb.below hb⟩
theorem Kp.good (h : Kp w x p q bk A B L X) (hX : X.length ≤ 1000) : Calls Tryd.prog 22 #[.pointer (some ⟨bk, 0, none⟩)] x fun e w' => e = .returned (.bool true) ∧ Tw w p q A B w' ∧ Tx.Stay 29 x w' ∧ Tx.Gone x w' X := by
  refine (tb_good h.tb (by decide) (by omega)).mono ?_
  rintro e w' ⟨rfl, k1, k2, k3⟩
  exact ⟨rfl, h.tw.stay (k1 57 (by decide)) k2, k1 29 (by decide), k3⟩
end
theorem bx_copied {q g : Nat} {f : Fo} {m : Value} {x : World} (h : Bx q g f m x) (hl : f.bs.length ≤ 1000) :
    Calls Tryd.prog 19 #[frV f.k f.p f.tok f.non m f.bk] x fun e w' => ∃ v, e = .returned v ∧ FrK x.heap.size f v w' ∧ Below x.heap.size x w' := by
  obtain ⟨a, n, rfl, hb, _⟩ := h.own.shape
  exact copied_any f hb hl
theorem frk_in {w : World} {B : Nat} {f : Fo} {d m : Value} (h : OwnB w B m f.bs) : FrIn w f (frD f.k f.p f.tok f.non d m f.bk) := by
  obtain ⟨a, n, e, hb, _⟩ := h.shape
  exact ofD rfl rfl rfl rfl rfl e hb
theorem ans8 (F : Hf) : F.answer.bs.length = 8 := by
  show ((proofL _ _ _ _).take 8).length = 8
  rw [List.length_take, proofL_len]
  rfl
theorem prf20 (F : Hf) (x : BitVec 32) : (F.proves x).bs.length = 20 := by
  show ((proofL _ _ _ _).take 20).length = 20
  rw [List.length_take, proofL_len]
  rfl
theorem ask_in {w : World} {F : Hf} {m : Value} {a : Option Addr} {n : Nat} (e : m = .slice a 0 n) : FrIn w F.ask (frC F.ask.k F.ask.p F.ask.tok F.ask.non m F.ask.bk) := by
  subst e
  exact ⟨_, _, _, _, _, _, a, n, rfl, fun k hk => absurd hk (Nat.not_lt_zero _)⟩
theorem same_yes {w : World} {m m' : Value} {B B' : Nat} {bs : List (BitVec 8)} (h : OwnB w B m bs) (h' : OwnB w B' m' bs) : Calls Tryd.prog 20 #[m, m'] w fun e w' => e = .returned (.bool true) ∧ w' = w := by
  obtain ⟨a, n, rfl, hb, _⟩ := h.shape
  obtain ⟨a', n', rfl, hb', _⟩ := h'.shape
  exact Tx.psame_yes hb rfl hb'
end Go.Proofs.YtjpllcliehgnfaaDoor
namespace Go.Proofs.YtjpllcliehgnfaaDoor
open Go.RowKit Go.Sort
set_option maxRecDepth 100000

set_option maxHeartbeats 8000000 in
/-- The Macs that are handed out are new memory, each its own. -/
theorem own_zero {w : World} (a b : Nat) (ha : a < 18446744073709551616) (hb : b < 18446744073709551616) (hK : KTab w) (h1 : 1 ≤ w.heap.size) :
    Calls Tryd.prog 7 #[.int .i64 0, .int .u64 (a : Int), .int .u64 (b : Int)] w fun e w' => e = .returned (.bool true) ∧ Below w.heap.size w w' := by
  have HAB := hid (And.intro ha hb)
  have HK := hid hK
  have H1 := hid h1
  clear ha hb hK h1
  go_enter Tryd.func7, Tryd.ntmps7
  have HP : Hid (¬ (5 : Int) = 0) := (by decide : ¬ (5 : Int) = 0)
  go_upto_region 4 with (first
    | (go_at_call_of 9 (Value.int IntKind.i64 1); refine (new_side 1 1 (5 : Int) b a 9 rfl).mono ?_; rintro e w2 ⟨rfl, hf2, hb2⟩
       have HT2 : Hid (Tw w w.heap.size w1.heap.size (mk0 0 (5 : Int) a b 9) (mk0 1 (5 : Int) b a 9) w2) := ⟨HF1.out.kept hb2, hf2, HB1.out.trans (hb2.mono HB1.out.size), Row.lt HF1.out, Nat.le_refl _⟩
       clear hf2 hb2)
    | (go_at_call_of 9 (Value.int IntKind.i64 0); refine (new_side 0 0 (5 : Int) a b 9 rfl).mono ?_; rintro e w1 ⟨rfl, hf1, hb1⟩; have HF1 := hid hf1; have HB1 := hid hb1; clear hf1 hb1))
  clear HF1 HB1
  generalize w1.heap.size = q at *
  have HT : Hid (Tw w w.heap.size q (⟨0, (5 : Int), a, b, 9, 0, false, 0#32, 0, 0⟩ : Hf) (⟨1, (5 : Int), b, a, 9, 0, false, 0#32, 0, 0⟩ : Hf) w2) := by
    have := HT2.out
    unfold mk0 at this
    rw [if_neg HP.out] at this
    exact this
  clear HT2
  have HLT11 : Hid (q < w2.heap.size) := HT.out.lt
  go_upto_region 7 with (first
    | (go_at_call 10; refine (start_yes HT.out.ha rfl rfl HAB.out.2 (HT.out.k HK.out) (Nat.le_trans H1.out HT.out.ge) 0 false).mono ?_; rintro e w11 ⟨v, rfl, ⟨m11, hv, om⟩, hf, ho⟩; have HT11 := hid (HT.out.onA ho hf); have HM11 := hid om; have HV11 := hid hv; have HO11 := hid ho; clear hv om hf ho)
    | (show wpList _ _ _ (Oper.mk none (.store 29 (.tmp 9) (.tmp 44)) _ _ _ _ :: _) _ _; refine (Row.new' w11 _ frZ 29 _ rfl rfl).wpStore' 29 (.tmp 9) (.tmp 44) (frC ((⟨0, (5 : Int), a, b, 9, 1, false, 0#32, 0, 0⟩ : Hf).ask).k ((⟨0, (5 : Int), a, b, 9, 1, false, 0#32, 0, 0⟩ : Hf).ask).p ((⟨0, (5 : Int), a, b, 9, 1, false, 0#32, 0, 0⟩ : Hf).ask).tok ((⟨0, (5 : Int), a, b, 9, 1, false, 0#32, 0, 0⟩ : Hf).ask).non m11 ((⟨0, (5 : Int), a, b, 9, 1, false, 0#32, 0, 0⟩ : Hf).ask).bk) rfl rfl rfl HV11.out rfl (frC_m HM11.out) i29 ?_; intro wz11 HZ11))
  have HB11 : Hid (Below w11.heap.size w11 wz11) := by show Below _ _ _; rw [HZ11.out]; exact below_put _ _ _
  have HR11 : Hid (q < w11.heap.size) := Nat.lt_of_lt_of_le (HLT11.out) HO11.out.size
  have HG11 : Hid (Btw q w11.heap.size m11) := btw_of HM11.out (HLT11.out)
  have HX11_ask : Hid (Bx q w11.heap.size ((⟨0, (5 : Int), a, b, 9, 1, false, 0#32, 0, 0⟩ : Hf).ask) m11 wz11) := by show Bx _ _ _ _ _; rw [HZ11.out]; exact Bx.new HM11.out (HT.out.lt) (Nat.lt_of_lt_of_le (HT.out.lt) HO11.out.size)
  have HU11 := hid (HT11.out.kept HB11.out)
  clear HT HLT11 HT11 HB11 HZ11 HM11 HV11 HO11
  generalize w11.heap.size = g11 at *
  have HLT12 : Hid (g11 < wz11.heap.size) := HX11_ask.out.row.lt
  go_upto_region 8 with (first
    | (show wpList _ _ _ (Oper.mk (some 48) (.load 29 (.tmp 9)) _ _ _ _ :: _) _ _; refine HX11_ask.out.row.wpLoad 29 (.tmp 9) rfl rfl rfl _ Tryd.underlying29 rfl i29 ?_)
    | (go_at_call 15; refine (hear_join HU11.out.hb HX11_ask.out.frin HP.out rfl rfl rfl (.inl rfl) rfl HAB.out.2 (by have := HU11.out.ge; have := HU11.out.ne; have := H1.out; omega) (HU11.out.k HK.out) (HU11.out.one H1.out) 0).mono ?_; rintro e w12 ⟨v, rfl, ⟨m12, hv, om⟩, hf, ho⟩; have HT12 := hid (HU11.out.onB ho hf); have HM12 := hid om; have HV12 := hid hv; have HO12 := hid ho; clear hv om hf ho)
    | (show wpList _ _ _ (Oper.mk none (.store 29 (.tmp 11) (.tmp 50)) _ _ _ _ :: _) _ _; refine (Row.new' w12 _ frZ 29 _ rfl rfl).wpStore' 29 (.tmp 11) (.tmp 50) (frC ((⟨1, (5 : Int), b, a, 9, 2, false, (nonceOf a (5 : Int)), 0, 0⟩ : Hf).answer).k ((⟨1, (5 : Int), b, a, 9, 2, false, (nonceOf a (5 : Int)), 0, 0⟩ : Hf).answer).p ((⟨1, (5 : Int), b, a, 9, 2, false, (nonceOf a (5 : Int)), 0, 0⟩ : Hf).answer).tok ((⟨1, (5 : Int), b, a, 9, 2, false, (nonceOf a (5 : Int)), 0, 0⟩ : Hf).answer).non m12 ((⟨1, (5 : Int), b, a, 9, 2, false, (nonceOf a (5 : Int)), 0, 0⟩ : Hf).answer).bk) rfl rfl rfl HV12.out rfl (frC_m HM12.out) i29 ?_; intro wz12 HZ12))
  have HX12_ask := hid (HX11_ask.out.only HO12.out (Nat.le_refl _))
  clear HX11_ask
  have HB12 : Hid (Below w12.heap.size w12 wz12) := by show Below _ _ _; rw [HZ12.out]; exact below_put _ _ _
  have HR12 : Hid (g11 < w12.heap.size) := Nat.lt_of_lt_of_le (HLT12.out) HO12.out.size
  have HG12 : Hid (Btw g11 w12.heap.size m12) := btw_of HM12.out (HLT12.out)
  have HX12_one : Hid (Bx q w12.heap.size ((⟨1, (5 : Int), b, a, 9, 2, false, (nonceOf a (5 : Int)), 0, 0⟩ : Hf).answer) m12 wz12) := by show Bx _ _ _ _ _; rw [HZ12.out]; exact Bx.new HM12.out (HU11.out.lt) (Nat.lt_of_lt_of_le (HU11.out.lt) HO12.out.size)
  have HY12_ask := hid (HX12_ask.out.kept HB12.out)
  clear HX12_ask
  have HU12 := hid (HT12.out.kept HB12.out)
  clear HU11 HLT12 HT12 HB12 HZ12 HM12 HV12 HO12
  generalize w12.heap.size = g12 at *
  have HLT13 : Hid (g12 < wz12.heap.size) := HX12_one.out.row.lt
  go_upto_region 9 with (first
    | (show wpList _ _ _ (Oper.mk (some 54) (.load 29 (.tmp 9)) _ _ _ _ :: _) _ _; refine HY12_ask.out.row.wpLoad 29 (.tmp 9) rfl rfl rfl _ Tryd.underlying29 rfl i29 ?_)
    | (go_at_call 15; refine (hear_join HU12.out.hb HY12_ask.out.frin HP.out rfl rfl rfl (.inr rfl) rfl HAB.out.2 (by have := HU12.out.ge; have := HU12.out.ne; have := H1.out; omega) (HU12.out.k HK.out) (HU12.out.one H1.out) 0).mono ?_; rintro e w13 ⟨v, rfl, ⟨m13, hv, om⟩, hf, ho⟩; have HT13 := hid (HU12.out.onB ho hf); have HM13 := hid om; have HV13 := hid hv; have HO13 := hid ho; clear hv om hf ho)
    | (show wpList _ _ _ (Oper.mk none (.store 29 (.tmp 13) (.tmp 56)) _ _ _ _ :: _) _ _; refine (Row.new' w13 _ frZ 29 _ rfl rfl).wpStore' 29 (.tmp 13) (.tmp 56) (frC ((⟨1, (5 : Int), b, a, 9, 2, false, (nonceOf a (5 : Int)), 0, 0⟩ : Hf).answer).k ((⟨1, (5 : Int), b, a, 9, 2, false, (nonceOf a (5 : Int)), 0, 0⟩ : Hf).answer).p ((⟨1, (5 : Int), b, a, 9, 2, false, (nonceOf a (5 : Int)), 0, 0⟩ : Hf).answer).tok ((⟨1, (5 : Int), b, a, 9, 2, false, (nonceOf a (5 : Int)), 0, 0⟩ : Hf).answer).non m13 ((⟨1, (5 : Int), b, a, 9, 2, false, (nonceOf a (5 : Int)), 0, 0⟩ : Hf).answer).bk) rfl rfl rfl HV13.out rfl (frC_m HM13.out) i29 ?_; intro wz13 HZ13))
  have HX13_ask := hid (HY12_ask.out.only HO13.out (Nat.le_refl _))
  clear HY12_ask
  have HX13_one := hid (HX12_one.out.only HO13.out (Nat.le_refl _))
  clear HX12_one
  have HB13 : Hid (Below w13.heap.size w13 wz13) := by show Below _ _ _; rw [HZ13.out]; exact below_put _ _ _
  have HR13 : Hid (g12 < w13.heap.size) := Nat.lt_of_lt_of_le (HLT13.out) HO13.out.size
  have HG13 : Hid (Btw g12 w13.heap.size m13) := btw_of HM13.out (HLT13.out)
  have HX13_two : Hid (Bx q w13.heap.size ((⟨1, (5 : Int), b, a, 9, 2, false, (nonceOf a (5 : Int)), 0, 0⟩ : Hf).answer) m13 wz13) := by show Bx _ _ _ _ _; rw [HZ13.out]; exact Bx.new HM13.out (HU12.out.lt) (Nat.lt_of_lt_of_le (HU12.out.lt) HO13.out.size)
  have HY13_ask := hid (HX13_ask.out.kept HB13.out)
  clear HX13_ask
  have HY13_one := hid (HX13_one.out.kept HB13.out)
  clear HX13_one
  have HU13 := hid (HT13.out.kept HB13.out)
  clear HU12 HLT13 HT13 HB13 HZ13 HM13 HV13 HO13
  generalize w13.heap.size = g13 at *
  have HTK : Hid (Calls Tryd.prog 11 #[.pointer (some ⟨q, 0, none⟩), .int .u64 1000] wz13 (Ans wz13 q (⟨1, (5 : Int), b, a, 9, 2, false, (nonceOf a (5 : Int)), 1, 1000⟩ : Hf) (⟨1, (5 : Int), b, a, 9, 2, false, (nonceOf a (5 : Int)), 1, 1000⟩ : Hf).answer true)) := by
    have h := tick_again HU13.out.hb (by show (0 : Nat) ≤ 16; decide) 1000 (by decide) (by show decide ((2 : Int) = 1 ∨ (2 : Int) = 2) = true; decide) (by show (0 : Nat) ≤ 1000; decide) (by show Nat.min (1000 * 2 ^ 0) 60000 ≤ 1000 - 0; decide) (by show ¬ ((0 : Nat) : Int) = 9; decide) HAB.out.1 (HU13.out.k HK.out) (by have := HU13.out.ge; have := HU13.out.ne; have := H1.out; omega)
    rw [if_neg (by show ¬ (2 : Int) = 1; decide)] at h
    exact h
  have HLT14 : Hid (g13 < wz13.heap.size) := HX13_two.out.row.lt
  go_upto_region 10 with (first
    | (go_at_call 11; refine (HTK.out).mono ?_; rintro e w14 ⟨v, rfl, ⟨m14, hv, om⟩, hf, ho⟩; have HT14 := hid (HU13.out.onB ho hf); have HM14 := hid om; have HV14 := hid hv; have HO14 := hid ho; clear hv om hf ho)
    | (show wpList _ _ _ (Oper.mk none (.store 29 (.tmp 15) (.tmp 61)) _ _ _ _ :: _) _ _; refine (Row.new' w14 _ frZ 29 _ rfl rfl).wpStore' 29 (.tmp 15) (.tmp 61) (frC ((⟨1, (5 : Int), b, a, 9, 2, false, (nonceOf a (5 : Int)), 1, 1000⟩ : Hf).answer).k ((⟨1, (5 : Int), b, a, 9, 2, false, (nonceOf a (5 : Int)), 1, 1000⟩ : Hf).answer).p ((⟨1, (5 : Int), b, a, 9, 2, false, (nonceOf a (5 : Int)), 1, 1000⟩ : Hf).answer).tok ((⟨1, (5 : Int), b, a, 9, 2, false, (nonceOf a (5 : Int)), 1, 1000⟩ : Hf).answer).non m14 ((⟨1, (5 : Int), b, a, 9, 2, false, (nonceOf a (5 : Int)), 1, 1000⟩ : Hf).answer).bk) rfl rfl rfl HV14.out rfl (frC_m HM14.out) i29 ?_; intro wz14 HZ14))
  have HX14_ask := hid (HY13_ask.out.only HO14.out (Nat.le_refl _))
  clear HY13_ask
  have HX14_one := hid (HY13_one.out.only HO14.out (Nat.le_refl _))
  clear HY13_one
  have HX14_two := hid (HX13_two.out.only HO14.out (Nat.le_refl _))
  clear HX13_two
  have HB14 : Hid (Below w14.heap.size w14 wz14) := by show Below _ _ _; rw [HZ14.out]; exact below_put _ _ _
  have HR14 : Hid (g13 < w14.heap.size) := Nat.lt_of_lt_of_le (HLT14.out) HO14.out.size
  have HG14 : Hid (Btw g13 w14.heap.size m14) := btw_of HM14.out (HLT14.out)
  have HX14_thr : Hid (Bx q w14.heap.size ((⟨1, (5 : Int), b, a, 9, 2, false, (nonceOf a (5 : Int)), 1, 1000⟩ : Hf).answer) m14 wz14) := by show Bx _ _ _ _ _; rw [HZ14.out]; exact Bx.new HM14.out (HU13.out.lt) (Nat.lt_of_lt_of_le (HU13.out.lt) HO14.out.size)
  have HY14_ask := hid (HX14_ask.out.kept HB14.out)
  clear HX14_ask
  have HY14_one := hid (HX14_one.out.kept HB14.out)
  clear HX14_one
  have HY14_two := hid (HX14_two.out.kept HB14.out)
  clear HX14_two
  have HU14 := hid (HT14.out.kept HB14.out)
  clear HU13 HLT14 HT14 HB14 HZ14 HM14 HV14 HO14
  generalize w14.heap.size = g14 at *
  clear HTK
  have HCX := hid (bx_copied HY14_one.out (by rw [ans8]; decide))
  go_upto_region 11 with (first
    | (show wpList _ _ _ (Oper.mk (some 65) (.load 29 (.tmp 11)) _ _ _ _ :: _) _ _; refine HY14_one.out.row.wpLoad 29 (.tmp 11) rfl rfl rfl _ Tryd.underlying29 rfl i29 ?_)
    | (go_at_call 19; refine HCX.out.mono ?_; rintro e wc ⟨vc, rfl, ⟨dc, mc, rfl, od, om⟩, hbc⟩; have HTC := hid (HU14.out.kept hbc); have HFC := hid (frk_in (d := dc) om); have HBC := hid hbc; clear od om hbc)
    | (go_at_call 15; refine (hear_joined HTC.out.ha HFC.out HP.out rfl rfl rfl (.inl rfl) rfl (Nat.le_trans H1.out HTC.out.ge) (HTC.out.k HK.out) (HTC.out.one H1.out) 0).mono ?_; rintro e w15 ⟨v, rfl, ⟨m15, hv, om⟩, hf, ho⟩; have HT15 := hid (HTC.out.onA ho hf); have HM15 := hid om; have HV15 := hid hv; have HO15 := hid ho; clear hv om hf ho)
    | (show wpList _ _ _ (Oper.mk none (.store 29 (.tmp 17) (.tmp 68)) _ _ _ _ :: _) _ _; refine (Row.new' w15 _ frZ 29 _ rfl rfl).wpStore' 29 (.tmp 17) (.tmp 68) (frC ((⟨0, (5 : Int), a, b, 9, 3, false, 0#32, 0, 0⟩ : Hf).proves (nonceOf b (5 : Int))).k ((⟨0, (5 : Int), a, b, 9, 3, false, 0#32, 0, 0⟩ : Hf).proves (nonceOf b (5 : Int))).p ((⟨0, (5 : Int), a, b, 9, 3, false, 0#32, 0, 0⟩ : Hf).proves (nonceOf b (5 : Int))).tok ((⟨0, (5 : Int), a, b, 9, 3, false, 0#32, 0, 0⟩ : Hf).proves (nonceOf b (5 : Int))).non m15 ((⟨0, (5 : Int), a, b, 9, 3, false, 0#32, 0, 0⟩ : Hf).proves (nonceOf b (5 : Int))).bk) rfl rfl rfl HV15.out rfl (frC_m HM15.out) i29 ?_; intro wz15 HZ15))
  have HLT15 : Hid (g14 < wc.heap.size) := (HX14_thr.out.kept HBC.out).row.lt
  have HX15_ask := hid ((HY14_ask.out.kept HBC.out).only HO15.out (by have := HTC.out.ne; omega))
  clear HY14_ask
  have HX15_one := hid ((HY14_one.out.kept HBC.out).only HO15.out (by have := HTC.out.ne; omega))
  clear HY14_one
  have HX15_two := hid ((HY14_two.out.kept HBC.out).only HO15.out (by have := HTC.out.ne; omega))
  clear HY14_two
  have HX15_thr := hid ((HX14_thr.out.kept HBC.out).only HO15.out (by have := HTC.out.ne; omega))
  clear HX14_thr
  have HB15 : Hid (Below w15.heap.size w15 wz15) := by show Below _ _ _; rw [HZ15.out]; exact below_put _ _ _
  have HR15 : Hid (g14 < w15.heap.size) := Nat.lt_of_lt_of_le HLT15.out HO15.out.size
  have HG15 : Hid (Btw g14 w15.heap.size m15) := btw_of HM15.out HLT15.out
  have HX15_fou : Hid (Bx q w15.heap.size ((⟨0, (5 : Int), a, b, 9, 3, false, 0#32, 0, 0⟩ : Hf).proves (nonceOf b (5 : Int))) m15 wz15) := by show Bx _ _ _ _ _; rw [HZ15.out]; exact Bx.new HM15.out HTC.out.lt (Nat.lt_of_lt_of_le HTC.out.lt HO15.out.size)
  have HY15_ask := hid (HX15_ask.out.kept HB15.out)
  clear HX15_ask
  have HY15_one := hid (HX15_one.out.kept HB15.out)
  clear HX15_one
  have HY15_two := hid (HX15_two.out.kept HB15.out)
  clear HX15_two
  have HY15_thr := hid (HX15_thr.out.kept HB15.out)
  clear HX15_thr
  have HU15 := hid (HT15.out.kept HB15.out)
  clear HU14 HTC HFC HBC HCX HLT15 HT15 HB15 HZ15 HM15 HV15 HO15
  generalize w15.heap.size = g15 at *
  have HCX := hid (bx_copied HY15_one.out (by rw [ans8]; decide))
  go_upto_region 12 with (first
    | (show wpList _ _ _ (Oper.mk (some 72) (.load 29 (.tmp 11)) _ _ _ _ :: _) _ _; refine HY15_one.out.row.wpLoad 29 (.tmp 11) rfl rfl rfl _ Tryd.underlying29 rfl i29 ?_)
    | (go_at_call 19; refine HCX.out.mono ?_; rintro e wc ⟨vc, rfl, ⟨dc, mc, rfl, od, om⟩, hbc⟩; have HTC := hid (HU15.out.kept hbc); have HFC := hid (frk_in (d := dc) om); have HBC := hid hbc; clear od om hbc)
    | (go_at_call 15; refine (hear_joined HTC.out.ha HFC.out HP.out rfl rfl rfl (.inr rfl) rfl (Nat.le_trans H1.out HTC.out.ge) (HTC.out.k HK.out) (HTC.out.one H1.out) 0).mono ?_; rintro e w16 ⟨v, rfl, ⟨m16, hv, om⟩, hf, ho⟩; have HT16 := hid (HTC.out.onA ho hf); have HM16 := hid om; have HV16 := hid hv; have HO16 := hid ho; clear hv om hf ho)
    | (show wpList _ _ _ (Oper.mk none (.store 29 (.tmp 19) (.tmp 75)) _ _ _ _ :: _) _ _; refine (Row.new' w16 _ frZ 29 _ rfl rfl).wpStore' 29 (.tmp 19) (.tmp 75) (frC ((⟨0, (5 : Int), a, b, 9, 3, false, 0#32, 0, 0⟩ : Hf).proves (nonceOf b (5 : Int))).k ((⟨0, (5 : Int), a, b, 9, 3, false, 0#32, 0, 0⟩ : Hf).proves (nonceOf b (5 : Int))).p ((⟨0, (5 : Int), a, b, 9, 3, false, 0#32, 0, 0⟩ : Hf).proves (nonceOf b (5 : Int))).tok ((⟨0, (5 : Int), a, b, 9, 3, false, 0#32, 0, 0⟩ : Hf).proves (nonceOf b (5 : Int))).non m16 ((⟨0, (5 : Int), a, b, 9, 3, false, 0#32, 0, 0⟩ : Hf).proves (nonceOf b (5 : Int))).bk) rfl rfl rfl HV16.out rfl (frC_m HM16.out) i29 ?_; intro wz16 HZ16))
  have HLT16 : Hid (g15 < wc.heap.size) := (HX15_fou.out.kept HBC.out).row.lt
  have HX16_ask := hid ((HY15_ask.out.kept HBC.out).only HO16.out (by have := HTC.out.ne; omega))
  clear HY15_ask
  have HX16_one := hid ((HY15_one.out.kept HBC.out).only HO16.out (by have := HTC.out.ne; omega))
  clear HY15_one
  have HX16_two := hid ((HY15_two.out.kept HBC.out).only HO16.out (by have := HTC.out.ne; omega))
  clear HY15_two
  have HX16_thr := hid ((HY15_thr.out.kept HBC.out).only HO16.out (by have := HTC.out.ne; omega))
  clear HY15_thr
  have HX16_fou := hid ((HX15_fou.out.kept HBC.out).only HO16.out (by have := HTC.out.ne; omega))
  clear HX15_fou
  have HB16 : Hid (Below w16.heap.size w16 wz16) := by show Below _ _ _; rw [HZ16.out]; exact below_put _ _ _
  have HR16 : Hid (g15 < w16.heap.size) := Nat.lt_of_lt_of_le HLT16.out HO16.out.size
  have HG16 : Hid (Btw g15 w16.heap.size m16) := btw_of HM16.out HLT16.out
  have HX16_fiv : Hid (Bx q w16.heap.size ((⟨0, (5 : Int), a, b, 9, 3, false, 0#32, 0, 0⟩ : Hf).proves (nonceOf b (5 : Int))) m16 wz16) := by show Bx _ _ _ _ _; rw [HZ16.out]; exact Bx.new HM16.out HTC.out.lt (Nat.lt_of_lt_of_le HTC.out.lt HO16.out.size)
  have HY16_ask := hid (HX16_ask.out.kept HB16.out)
  clear HX16_ask
  have HY16_one := hid (HX16_one.out.kept HB16.out)
  clear HX16_one
  have HY16_two := hid (HX16_two.out.kept HB16.out)
  clear HX16_two
  have HY16_thr := hid (HX16_thr.out.kept HB16.out)
  clear HX16_thr
  have HY16_fou := hid (HX16_fou.out.kept HB16.out)
  clear HX16_fou
  have HU16 := hid (HT16.out.kept HB16.out)
  clear HU15 HTC HFC HBC HCX HLT16 HT16 HB16 HZ16 HM16 HV16 HO16
  generalize w16.heap.size = g16 at *
  have HS1 := hid (same_yes HY16_one.out.own HY16_two.out.own)
  have HS2 := hid (same_yes (bs := ((⟨1, (5 : Int), b, a, 9, 2, false, (nonceOf a (5 : Int)), 0, 0⟩ : Hf).answer).bs) HY16_one.out.own HY16_thr.out.own)
  have HS3 := hid (same_yes HY16_fou.out.own HX16_fiv.out.own)
  have hall : ∀ y ∈ ([(g11, (⟨0, (5 : Int), a, b, 9, 1, false, 0#32, 0, 0⟩ : Hf).ask, m11), (g12, (⟨1, (5 : Int), b, a, 9, 2, false, (nonceOf a (5 : Int)), 0, 0⟩ : Hf).answer, m12), (g13, (⟨1, (5 : Int), b, a, 9, 2, false, (nonceOf a (5 : Int)), 0, 0⟩ : Hf).answer, m13), (g14, (⟨1, (5 : Int), b, a, 9, 2, false, (nonceOf a (5 : Int)), 1, 1000⟩ : Hf).answer, m14), (g15, (⟨0, (5 : Int), a, b, 9, 3, false, 0#32, 0, 0⟩ : Hf).proves (nonceOf b (5 : Int)), m15), (g16, (⟨0, (5 : Int), a, b, 9, 3, false, 0#32, 0, 0⟩ : Hf).proves (nonceOf b (5 : Int)), m16)] : List (Nat × Fo × Value)), Bx q y.1 y.2.1 y.2.2 wz16 := by
    simp only [List.mem_cons, List.not_mem_nil, or_false]
    rintro y (rfl | rfl | rfl | rfl | rfl | rfl)
    · exact HY16_ask.out
    · exact HY16_one.out
    · exact HY16_two.out
    · exact HY16_thr.out
    · exact HY16_fou.out
    · exact HX16_fiv.out
  have HKP : Hid (Kp w (wz16.alloc (.cells #[.slice none 0 0, .slice none 0 0] 51)) w.heap.size q wz16.heap.size (⟨0, (5 : Int), a, b, 9, 3, false, 0#32, 0, 0⟩ : Hf) (⟨1, (5 : Int), b, a, 9, 2, false, (nonceOf a (5 : Int)), 1, 1000⟩ : Hf) [(g11, (⟨0, (5 : Int), a, b, 9, 1, false, 0#32, 0, 0⟩ : Hf).ask, m11), (g12, (⟨1, (5 : Int), b, a, 9, 2, false, (nonceOf a (5 : Int)), 0, 0⟩ : Hf).answer, m12), (g13, (⟨1, (5 : Int), b, a, 9, 2, false, (nonceOf a (5 : Int)), 0, 0⟩ : Hf).answer, m13), (g14, (⟨1, (5 : Int), b, a, 9, 2, false, (nonceOf a (5 : Int)), 1, 1000⟩ : Hf).answer, m14), (g15, (⟨0, (5 : Int), a, b, 9, 3, false, 0#32, 0, 0⟩ : Hf).proves (nonceOf b (5 : Int)), m15), (g16, (⟨0, (5 : Int), a, b, 9, 3, false, 0#32, 0, 0⟩ : Hf).proves (nonceOf b (5 : Int)), m16)] []) := Kp.new HU16.out hall
  clear hall
  have c_one := HY16_one.out.row.cell 9 _ rfl
  have c_two := HY16_two.out.row.cell 9 _ rfl
  have c_thr := HY16_thr.out.row.cell 9 _ rfl
  have c_fou := HY16_fou.out.row.cell 9 _ rfl
  have c_fiv := HX16_fiv.out.row.cell 9 _ rfl
  obtain ⟨a_one, n_one, e_one⟩ := HY16_one.out.slice
  rw [show ((⟨1, (5 : Int), b, a, 9, 2, false, (nonceOf a (5 : Int)), 0, 0⟩ : Hf).answer).bs.length = 8 from ans8 _] at e_one
  obtain ⟨a_two, n_two, e_two⟩ := HY16_two.out.slice
  rw [show ((⟨1, (5 : Int), b, a, 9, 2, false, (nonceOf a (5 : Int)), 0, 0⟩ : Hf).answer).bs.length = 8 from ans8 _] at e_two
  obtain ⟨a_thr, n_thr, e_thr⟩ := HY16_thr.out.slice
  rw [show ((⟨1, (5 : Int), b, a, 9, 2, false, (nonceOf a (5 : Int)), 1, 1000⟩ : Hf).answer).bs.length = 8 from ans8 _] at e_thr
  obtain ⟨a_fou, n_fou, e_fou⟩ := HY16_fou.out.slice
  rw [show ((⟨0, (5 : Int), a, b, 9, 3, false, 0#32, 0, 0⟩ : Hf).proves (nonceOf b (5 : Int))).bs.length = 20 from prf20 _ _] at e_fou
  obtain ⟨a_fiv, n_fiv, e_fiv⟩ := HX16_fiv.out.slice
  rw [show ((⟨0, (5 : Int), a, b, 9, 3, false, 0#32, 0, 0⟩ : Hf).proves (nonceOf b (5 : Int))).bs.length = 20 from prf20 _ _] at e_fiv
  obtain ⟨a_ask, n_ask, e_ask⟩ := HY16_ask.out.slice
  replace e_ask : m11 = .slice a_ask 0 n_ask := e_ask
  subst e_ask
  clear HY16_ask
  clear HY16_one
  clear HY16_two
  clear HY16_thr
  clear HY16_fou
  clear HX16_fiv
  clear HU16
  subst e_one
  subst e_two
  subst e_thr
  subst e_fou
  subst e_fiv
  go_upto_region 14 with (first
    | (go_at_call 20; refine HS1.out.mono ?_; clear HS1; rintro e wq1 ⟨rfl, hq⟩; subst hq)
    | (go_at_call 20; refine HS2.out.mono ?_; clear HS2; rintro e wq2 ⟨rfl, hq⟩; subst hq)
    | (go_at_call 20; refine HS3.out.mono ?_; clear HS3; rintro e wq3 ⟨rfl, hq⟩; subst hq))
  clear c_one c_two c_thr c_fou c_fiv
  go_upto_region 15 with fail
  revert HKP
  generalize wq3.alloc (.cells #[.slice none 0 0, .slice none 0 0] 51) = wk0
  generalize wq3.heap.size = bk
  intro HKP
  have HBone := hid (HKP.out.bx (g12, (⟨1, (5 : Int), b, a, 9, 2, false, (nonceOf a (5 : Int)), 0, 0⟩ : Hf).answer, (Value.slice a_one 8 n_one)) (List.Mem.tail _ (List.Mem.head _)))
  have c_one := HBone.out.row.cell 9 _ rfl
  have HQone : Hid (Calls Tryd.prog 21 #[.pointer (some ⟨bk, 0, none⟩), (Value.slice a_one 8 n_one)] wk0 fun e w' => e = .returned (.tuple #[]) ∧ Kp w w' w.heap.size q bk (⟨0, (5 : Int), a, b, 9, 3, false, 0#32, 0, 0⟩ : Hf) (⟨1, (5 : Int), b, a, 9, 2, false, (nonceOf a (5 : Int)), 1, 1000⟩ : Hf) [(g11, (⟨0, (5 : Int), a, b, 9, 1, false, 0#32, 0, 0⟩ : Hf).ask, (Value.slice a_ask 0 n_ask)), (g12, (⟨1, (5 : Int), b, a, 9, 2, false, (nonceOf a (5 : Int)), 0, 0⟩ : Hf).answer, (Value.slice a_one 8 n_one)), (g13, (⟨1, (5 : Int), b, a, 9, 2, false, (nonceOf a (5 : Int)), 0, 0⟩ : Hf).answer, (Value.slice a_two 8 n_two)), (g14, (⟨1, (5 : Int), b, a, 9, 2, false, (nonceOf a (5 : Int)), 1, 1000⟩ : Hf).answer, (Value.slice a_thr 8 n_thr)), (g15, (⟨0, (5 : Int), a, b, 9, 3, false, 0#32, 0, 0⟩ : Hf).proves (nonceOf b (5 : Int)), (Value.slice a_fou 20 n_fou)), (g16, (⟨0, (5 : Int), a, b, 9, 3, false, 0#32, 0, 0⟩ : Hf).proves (nonceOf b (5 : Int)), (Value.slice a_fiv 20 n_fiv))] [(Value.slice a_one 8 n_one)]) := HKP.out.keep (y := (g12, (⟨1, (5 : Int), b, a, 9, 2, false, (nonceOf a (5 : Int)), 0, 0⟩ : Hf).answer, (Value.slice a_one 8 n_one))) (List.Mem.tail _ (List.Mem.head _)) (Nat.le_trans (Nat.le_of_eq (ans8 (⟨1, (5 : Int), b, a, 9, 2, false, (nonceOf a (5 : Int)), 0, 0⟩ : Hf))) (by decide)) (by show (_ : Nat) ≤ 1000; exact Nat.le_trans (by decide : 0 ≤ 5) (by decide)) (by intro u hu; cases hu)
  go_upto_region 16 with (go_at_call 21; refine HQone.out.mono ?_; rintro e wk1 ⟨rfl, hk1⟩; have HK1 := hid hk1; clear hk1)
  clear HQone HBone c_one HKP
  have HBtwo := hid (HK1.out.bx (g13, (⟨1, (5 : Int), b, a, 9, 2, false, (nonceOf a (5 : Int)), 0, 0⟩ : Hf).answer, (Value.slice a_two 8 n_two)) (List.Mem.tail _ (List.Mem.tail _ (List.Mem.head _))))
  have c_two := HBtwo.out.row.cell 9 _ rfl
  have HQtwo : Hid (Calls Tryd.prog 21 #[.pointer (some ⟨bk, 0, none⟩), (Value.slice a_two 8 n_two)] wk1 fun e w' => e = .returned (.tuple #[]) ∧ Kp w w' w.heap.size q bk (⟨0, (5 : Int), a, b, 9, 3, false, 0#32, 0, 0⟩ : Hf) (⟨1, (5 : Int), b, a, 9, 2, false, (nonceOf a (5 : Int)), 1, 1000⟩ : Hf) [(g11, (⟨0, (5 : Int), a, b, 9, 1, false, 0#32, 0, 0⟩ : Hf).ask, (Value.slice a_ask 0 n_ask)), (g12, (⟨1, (5 : Int), b, a, 9, 2, false, (nonceOf a (5 : Int)), 0, 0⟩ : Hf).answer, (Value.slice a_one 8 n_one)), (g13, (⟨1, (5 : Int), b, a, 9, 2, false, (nonceOf a (5 : Int)), 0, 0⟩ : Hf).answer, (Value.slice a_two 8 n_two)), (g14, (⟨1, (5 : Int), b, a, 9, 2, false, (nonceOf a (5 : Int)), 1, 1000⟩ : Hf).answer, (Value.slice a_thr 8 n_thr)), (g15, (⟨0, (5 : Int), a, b, 9, 3, false, 0#32, 0, 0⟩ : Hf).proves (nonceOf b (5 : Int)), (Value.slice a_fou 20 n_fou)), (g16, (⟨0, (5 : Int), a, b, 9, 3, false, 0#32, 0, 0⟩ : Hf).proves (nonceOf b (5 : Int)), (Value.slice a_fiv 20 n_fiv))] [(Value.slice a_one 8 n_one), (Value.slice a_two 8 n_two)]) := HK1.out.keep (y := (g13, (⟨1, (5 : Int), b, a, 9, 2, false, (nonceOf a (5 : Int)), 0, 0⟩ : Hf).answer, (Value.slice a_two 8 n_two))) (List.Mem.tail _ (List.Mem.tail _ (List.Mem.head _))) (Nat.le_trans (Nat.le_of_eq (ans8 (⟨1, (5 : Int), b, a, 9, 2, false, (nonceOf a (5 : Int)), 0, 0⟩ : Hf))) (by decide)) (by show (_ : Nat) ≤ 1000; exact Nat.le_trans (by decide : 1 ≤ 5) (by decide)) (by
      simp only [List.mem_cons, List.not_mem_nil, or_false]
      rintro u (rfl)
      · exact btw_ne HG12.out HG13.out (by have := HR12.out; have := HR13.out; have := HR14.out; have := HR15.out; have := HR16.out; omega))
  go_upto_region 17 with (go_at_call 21; refine HQtwo.out.mono ?_; rintro e wk2 ⟨rfl, hk2⟩; have HK2 := hid hk2; clear hk2)
  clear HQtwo HBtwo c_two HK1
  have HBthr := hid (HK2.out.bx (g14, (⟨1, (5 : Int), b, a, 9, 2, false, (nonceOf a (5 : Int)), 1, 1000⟩ : Hf).answer, (Value.slice a_thr 8 n_thr)) (List.Mem.tail _ (List.Mem.tail _ (List.Mem.tail _ (List.Mem.head _)))))
  have c_thr := HBthr.out.row.cell 9 _ rfl
  have HQthr : Hid (Calls Tryd.prog 21 #[.pointer (some ⟨bk, 0, none⟩), (Value.slice a_thr 8 n_thr)] wk2 fun e w' => e = .returned (.tuple #[]) ∧ Kp w w' w.heap.size q bk (⟨0, (5 : Int), a, b, 9, 3, false, 0#32, 0, 0⟩ : Hf) (⟨1, (5 : Int), b, a, 9, 2, false, (nonceOf a (5 : Int)), 1, 1000⟩ : Hf) [(g11, (⟨0, (5 : Int), a, b, 9, 1, false, 0#32, 0, 0⟩ : Hf).ask, (Value.slice a_ask 0 n_ask)), (g12, (⟨1, (5 : Int), b, a, 9, 2, false, (nonceOf a (5 : Int)), 0, 0⟩ : Hf).answer, (Value.slice a_one 8 n_one)), (g13, (⟨1, (5 : Int), b, a, 9, 2, false, (nonceOf a (5 : Int)), 0, 0⟩ : Hf).answer, (Value.slice a_two 8 n_two)), (g14, (⟨1, (5 : Int), b, a, 9, 2, false, (nonceOf a (5 : Int)), 1, 1000⟩ : Hf).answer, (Value.slice a_thr 8 n_thr)), (g15, (⟨0, (5 : Int), a, b, 9, 3, false, 0#32, 0, 0⟩ : Hf).proves (nonceOf b (5 : Int)), (Value.slice a_fou 20 n_fou)), (g16, (⟨0, (5 : Int), a, b, 9, 3, false, 0#32, 0, 0⟩ : Hf).proves (nonceOf b (5 : Int)), (Value.slice a_fiv 20 n_fiv))] [(Value.slice a_one 8 n_one), (Value.slice a_two 8 n_two), (Value.slice a_thr 8 n_thr)]) := HK2.out.keep (y := (g14, (⟨1, (5 : Int), b, a, 9, 2, false, (nonceOf a (5 : Int)), 1, 1000⟩ : Hf).answer, (Value.slice a_thr 8 n_thr))) (List.Mem.tail _ (List.Mem.tail _ (List.Mem.tail _ (List.Mem.head _)))) (Nat.le_trans (Nat.le_of_eq (ans8 (⟨1, (5 : Int), b, a, 9, 2, false, (nonceOf a (5 : Int)), 1, 1000⟩ : Hf))) (by decide)) (by show (_ : Nat) ≤ 1000; exact Nat.le_trans (by decide : 2 ≤ 5) (by decide)) (by
      simp only [List.mem_cons, List.not_mem_nil, or_false]
      rintro u (rfl | rfl)
      · exact btw_ne HG12.out HG14.out (by have := HR12.out; have := HR13.out; have := HR14.out; have := HR15.out; have := HR16.out; omega)
      · exact btw_ne HG13.out HG14.out (by have := HR12.out; have := HR13.out; have := HR14.out; have := HR15.out; have := HR16.out; omega))
  go_upto_region 18 with (go_at_call 21; refine HQthr.out.mono ?_; rintro e wk3 ⟨rfl, hk3⟩; have HK3 := hid hk3; clear hk3)
  clear HQthr HBthr c_thr HK2
  have HBfou := hid (HK3.out.bx (g15, (⟨0, (5 : Int), a, b, 9, 3, false, 0#32, 0, 0⟩ : Hf).proves (nonceOf b (5 : Int)), (Value.slice a_fou 20 n_fou)) (List.Mem.tail _ (List.Mem.tail _ (List.Mem.tail _ (List.Mem.tail _ (List.Mem.head _))))))
  have c_fou := HBfou.out.row.cell 9 _ rfl
  have HQfou : Hid (Calls Tryd.prog 21 #[.pointer (some ⟨bk, 0, none⟩), (Value.slice a_fou 20 n_fou)] wk3 fun e w' => e = .returned (.tuple #[]) ∧ Kp w w' w.heap.size q bk (⟨0, (5 : Int), a, b, 9, 3, false, 0#32, 0, 0⟩ : Hf) (⟨1, (5 : Int), b, a, 9, 2, false, (nonceOf a (5 : Int)), 1, 1000⟩ : Hf) [(g11, (⟨0, (5 : Int), a, b, 9, 1, false, 0#32, 0, 0⟩ : Hf).ask, (Value.slice a_ask 0 n_ask)), (g12, (⟨1, (5 : Int), b, a, 9, 2, false, (nonceOf a (5 : Int)), 0, 0⟩ : Hf).answer, (Value.slice a_one 8 n_one)), (g13, (⟨1, (5 : Int), b, a, 9, 2, false, (nonceOf a (5 : Int)), 0, 0⟩ : Hf).answer, (Value.slice a_two 8 n_two)), (g14, (⟨1, (5 : Int), b, a, 9, 2, false, (nonceOf a (5 : Int)), 1, 1000⟩ : Hf).answer, (Value.slice a_thr 8 n_thr)), (g15, (⟨0, (5 : Int), a, b, 9, 3, false, 0#32, 0, 0⟩ : Hf).proves (nonceOf b (5 : Int)), (Value.slice a_fou 20 n_fou)), (g16, (⟨0, (5 : Int), a, b, 9, 3, false, 0#32, 0, 0⟩ : Hf).proves (nonceOf b (5 : Int)), (Value.slice a_fiv 20 n_fiv))] [(Value.slice a_one 8 n_one), (Value.slice a_two 8 n_two), (Value.slice a_thr 8 n_thr), (Value.slice a_fou 20 n_fou)]) := HK3.out.keep (y := (g15, (⟨0, (5 : Int), a, b, 9, 3, false, 0#32, 0, 0⟩ : Hf).proves (nonceOf b (5 : Int)), (Value.slice a_fou 20 n_fou))) (List.Mem.tail _ (List.Mem.tail _ (List.Mem.tail _ (List.Mem.tail _ (List.Mem.head _))))) (Nat.le_trans (Nat.le_of_eq (prf20 (⟨0, (5 : Int), a, b, 9, 3, false, 0#32, 0, 0⟩ : Hf) (nonceOf b (5 : Int)))) (by decide)) (by show (_ : Nat) ≤ 1000; exact Nat.le_trans (by decide : 3 ≤ 5) (by decide)) (by
      simp only [List.mem_cons, List.not_mem_nil, or_false]
      rintro u (rfl | rfl | rfl)
      · exact btw_ne HG12.out HG15.out (by have := HR12.out; have := HR13.out; have := HR14.out; have := HR15.out; have := HR16.out; omega)
      · exact btw_ne HG13.out HG15.out (by have := HR12.out; have := HR13.out; have := HR14.out; have := HR15.out; have := HR16.out; omega)
      · exact btw_ne HG14.out HG15.out (by have := HR12.out; have := HR13.out; have := HR14.out; have := HR15.out; have := HR16.out; omega))
  go_upto_region 19 with (go_at_call 21; refine HQfou.out.mono ?_; rintro e wk4 ⟨rfl, hk4⟩; have HK4 := hid hk4; clear hk4)
  clear HQfou HBfou c_fou HK3
  have HBfiv := hid (HK4.out.bx (g16, (⟨0, (5 : Int), a, b, 9, 3, false, 0#32, 0, 0⟩ : Hf).proves (nonceOf b (5 : Int)), (Value.slice a_fiv 20 n_fiv)) (List.Mem.tail _ (List.Mem.tail _ (List.Mem.tail _ (List.Mem.tail _ (List.Mem.tail _ (List.Mem.head _)))))))
  have c_fiv := HBfiv.out.row.cell 9 _ rfl
  have HQfiv : Hid (Calls Tryd.prog 21 #[.pointer (some ⟨bk, 0, none⟩), (Value.slice a_fiv 20 n_fiv)] wk4 fun e w' => e = .returned (.tuple #[]) ∧ Kp w w' w.heap.size q bk (⟨0, (5 : Int), a, b, 9, 3, false, 0#32, 0, 0⟩ : Hf) (⟨1, (5 : Int), b, a, 9, 2, false, (nonceOf a (5 : Int)), 1, 1000⟩ : Hf) [(g11, (⟨0, (5 : Int), a, b, 9, 1, false, 0#32, 0, 0⟩ : Hf).ask, (Value.slice a_ask 0 n_ask)), (g12, (⟨1, (5 : Int), b, a, 9, 2, false, (nonceOf a (5 : Int)), 0, 0⟩ : Hf).answer, (Value.slice a_one 8 n_one)), (g13, (⟨1, (5 : Int), b, a, 9, 2, false, (nonceOf a (5 : Int)), 0, 0⟩ : Hf).answer, (Value.slice a_two 8 n_two)), (g14, (⟨1, (5 : Int), b, a, 9, 2, false, (nonceOf a (5 : Int)), 1, 1000⟩ : Hf).answer, (Value.slice a_thr 8 n_thr)), (g15, (⟨0, (5 : Int), a, b, 9, 3, false, 0#32, 0, 0⟩ : Hf).proves (nonceOf b (5 : Int)), (Value.slice a_fou 20 n_fou)), (g16, (⟨0, (5 : Int), a, b, 9, 3, false, 0#32, 0, 0⟩ : Hf).proves (nonceOf b (5 : Int)), (Value.slice a_fiv 20 n_fiv))] [(Value.slice a_one 8 n_one), (Value.slice a_two 8 n_two), (Value.slice a_thr 8 n_thr), (Value.slice a_fou 20 n_fou), (Value.slice a_fiv 20 n_fiv)]) := HK4.out.keep (y := (g16, (⟨0, (5 : Int), a, b, 9, 3, false, 0#32, 0, 0⟩ : Hf).proves (nonceOf b (5 : Int)), (Value.slice a_fiv 20 n_fiv))) (List.Mem.tail _ (List.Mem.tail _ (List.Mem.tail _ (List.Mem.tail _ (List.Mem.tail _ (List.Mem.head _)))))) (Nat.le_trans (Nat.le_of_eq (prf20 (⟨0, (5 : Int), a, b, 9, 3, false, 0#32, 0, 0⟩ : Hf) (nonceOf b (5 : Int)))) (by decide)) (by show (_ : Nat) ≤ 1000; exact Nat.le_trans (by decide : 4 ≤ 5) (by decide)) (by
      simp only [List.mem_cons, List.not_mem_nil, or_false]
      rintro u (rfl | rfl | rfl | rfl)
      · exact btw_ne HG12.out HG16.out (by have := HR12.out; have := HR13.out; have := HR14.out; have := HR15.out; have := HR16.out; omega)
      · exact btw_ne HG13.out HG16.out (by have := HR12.out; have := HR13.out; have := HR14.out; have := HR15.out; have := HR16.out; omega)
      · exact btw_ne HG14.out HG16.out (by have := HR12.out; have := HR13.out; have := HR14.out; have := HR15.out; have := HR16.out; omega)
      · exact btw_ne HG15.out HG16.out (by have := HR12.out; have := HR13.out; have := HR14.out; have := HR15.out; have := HR16.out; omega))
  go_upto_region 20 with (go_at_call 21; refine HQfiv.out.mono ?_; rintro e wk5 ⟨rfl, hk5⟩; have HK5 := hid hk5; clear hk5)
  clear HQfiv HBfiv c_fiv HK4
  have HB1 := hid (HK5.out.bx (g12, (⟨1, (5 : Int), b, a, 9, 2, false, (nonceOf a (5 : Int)), 0, 0⟩ : Hf).answer, (Value.slice a_one 8 n_one)) (List.Mem.tail _ (List.Mem.head _)))
  have HBl := hid (HK5.out.bx (g16, (⟨0, (5 : Int), a, b, 9, 3, false, 0#32, 0, 0⟩ : Hf).proves (nonceOf b (5 : Int)), (Value.slice a_fiv 20 n_fiv)) (List.Mem.tail _ (List.Mem.tail _ (List.Mem.tail _ (List.Mem.tail _ (List.Mem.tail _ (List.Mem.head _)))))))
  have HCX := hid (bx_copied HB1.out (Nat.le_trans (Nat.le_of_eq (ans8 (⟨1, (5 : Int), b, a, 9, 2, false, (nonceOf a (5 : Int)), 0, 0⟩ : Hf))) (by decide)))
  go_upto_region 21 with (first
    | (show wpList _ _ _ (Oper.mk (some 134) (.load 29 (.tmp 11)) _ _ _ _ :: _) _ _; refine HB1.out.row.wpLoad 29 (.tmp 11) rfl rfl rfl _ Tryd.underlying29 rfl i29 ?_)
    | (go_at_call 19; refine HCX.out.mono ?_; rintro e wc ⟨vc, rfl, ⟨dc, mc, rfl, od, om⟩, hbc⟩; obtain ⟨ad, nd, rfl⟩ := OwnB.nilShape od; obtain ⟨am, nm, em, -, -, -⟩ := om.shape; replace em := em.trans (congrArg (fun n => Value.slice am n nm) (ans8 (⟨1, (5 : Int), b, a, 9, 2, false, (nonceOf a (5 : Int)), 0, 0⟩ : Hf))); subst em; have HMW := hid om; have HBC := hid hbc; clear od om hbc)
    | (show wpList _ _ _ (Oper.mk none (.store 29 (.tmp 22) (.tmp 135)) _ _ _ _ :: _) _ _; refine (Row.new' wc _ frZ 29 _ rfl rfl).wpStore' 29 (.tmp 22) (.tmp 135) (frD ((⟨1, (5 : Int), b, a, 9, 2, false, (nonceOf a (5 : Int)), 0, 0⟩ : Hf).answer).k ((⟨1, (5 : Int), b, a, 9, 2, false, (nonceOf a (5 : Int)), 0, 0⟩ : Hf).answer).p ((⟨1, (5 : Int), b, a, 9, 2, false, (nonceOf a (5 : Int)), 0, 0⟩ : Hf).answer).tok ((⟨1, (5 : Int), b, a, 9, 2, false, (nonceOf a (5 : Int)), 0, 0⟩ : Hf).answer).non (.slice ad 0 nd) (.slice am 8 nm) ((⟨1, (5 : Int), b, a, 9, 2, false, (nonceOf a (5 : Int)), 0, 0⟩ : Hf).answer).bk) rfl rfl rfl rfl rfl (frD_one _ _ _ _ _ _ _ _ _ _ _) i29 ?_; intro wzw HZW))
  have HBW : Hid (Below wc.heap.size wc wzw) := by show Below _ _ _; rw [HZW.out]; exact below_put _ _ _
  have HRW : Hid (Row wzw wc.heap.size (frD ((⟨1, (5 : Int), b, a, 9, 2, false, (nonceOf a (5 : Int)), 0, 0⟩ : Hf).answer).k ((⟨1, (5 : Int), b, a, 9, 2, false, (nonceOf a (5 : Int)), 0, 0⟩ : Hf).answer).p ((⟨1, (5 : Int), b, a, 9, 2, false, (nonceOf a (5 : Int)), 0, 0⟩ : Hf).answer).tok ((⟨1, (5 : Int), b, a, 9, 2, false, (nonceOf a (5 : Int)), 0, 0⟩ : Hf).answer).non (.slice ad 0 nd) (.slice am 8 nm) ((⟨1, (5 : Int), b, a, 9, 2, false, (nonceOf a (5 : Int)), 0, 0⟩ : Hf).answer).bk) 29) := by show Row _ _ _ _; rw [HZW.out]; exact (Row.new' wc _ frZ 29 _ rfl rfl).row _
  have HMW2 : Hid (OwnB wzw wk5.heap.size (.slice am 8 nm) ((⟨1, (5 : Int), b, a, 9, 2, false, (nonceOf a (5 : Int)), 0, 0⟩ : Hf).answer).bs) := OwnB.kept HMW.out HBW.out
  have HKW := hid ((HK5.out.kept HBC.out).kept HBW.out)
  have HLW : Hid (g16 < wk5.heap.size) := HBl.out.row.lt
  have HLQ : Hid (q + 1 ≤ wk5.heap.size) := HK5.out.tw.lt
  have HGD : Hid (Calls Tryd.prog 22 #[.pointer (some ⟨bk, 0, none⟩)] wzw fun e w' => e = .returned (.bool true) ∧ Tw w w.heap.size q (⟨0, (5 : Int), a, b, 9, 3, false, 0#32, 0, 0⟩ : Hf) (⟨1, (5 : Int), b, a, 9, 2, false, (nonceOf a (5 : Int)), 1, 1000⟩ : Hf) w' ∧ Tx.Stay 29 wzw w' ∧ Tx.Gone wzw w' [(Value.slice a_one 8 n_one), (Value.slice a_two 8 n_two), (Value.slice a_thr 8 n_thr), (Value.slice a_fou 20 n_fou), (Value.slice a_fiv 20 n_fiv)]) := HKW.out.good (by show 5 ≤ 1000; decide)
  clear HCX HB1 HBl HBC HMW HZW HK5
  go_upto_region 23 with (go_at_call 22; refine HGD.out.mono ?_; rintro e wg ⟨rfl, hgt, hgs, hgg⟩; have HT9 := hid hgt; have HSG := hid hgs; have HGG := hid hgg; clear hgt hgs hgg)
  clear HGD
  have HRA : Hid (Row wg g11 (frC ((⟨0, (5 : Int), a, b, 9, 1, false, 0#32, 0, 0⟩ : Hf).ask).k ((⟨0, (5 : Int), a, b, 9, 1, false, 0#32, 0, 0⟩ : Hf).ask).p ((⟨0, (5 : Int), a, b, 9, 1, false, 0#32, 0, 0⟩ : Hf).ask).tok ((⟨0, (5 : Int), a, b, 9, 1, false, 0#32, 0, 0⟩ : Hf).ask).non (Value.slice a_ask 0 n_ask) ((⟨0, (5 : Int), a, b, 9, 1, false, 0#32, 0, 0⟩ : Hf).ask).bk) 29) := row_stay (HKW.out.bx (g11, (⟨0, (5 : Int), a, b, 9, 1, false, 0#32, 0, 0⟩ : Hf).ask, (Value.slice a_ask 0 n_ask)) (List.Mem.head _)).row HSG.out
  have HRW2 := hid (row_stay HRW.out HSG.out)
  have HMW3 : Hid (OwnB wg wk5.heap.size (.slice am 8 nm) ((⟨1, (5 : Int), b, a, 9, 2, false, (nonceOf a (5 : Int)), 0, 0⟩ : Hf).answer).bs) := ownB_gone HMW2.out HGG.out (by
      intro g e
      have hge := Tx.own_ge HMW2.out e
      simp only [List.mem_cons, List.not_mem_nil, or_false]
      rintro u (rfl | rfl | rfl | rfl | rfl) e2
      · have := HG12.out _ e2; have := HLW.out; have := HR12.out; have := HR13.out; have := HR14.out; have := HR15.out; have := HR16.out; omega
      · have := HG13.out _ e2; have := HLW.out; have := HR12.out; have := HR13.out; have := HR14.out; have := HR15.out; have := HR16.out; omega
      · have := HG14.out _ e2; have := HLW.out; have := HR12.out; have := HR13.out; have := HR14.out; have := HR15.out; have := HR16.out; omega
      · have := HG15.out _ e2; have := HLW.out; have := HR12.out; have := HR13.out; have := HR14.out; have := HR15.out; have := HR16.out; omega
      · have := HG16.out _ e2; have := HLW.out; have := HR12.out; have := HR13.out; have := HR14.out; have := HR15.out; have := HR16.out; omega)
  have HFA := hid (ask_in (w := wg) (F := (⟨0, (5 : Int), a, b, 9, 1, false, 0#32, 0, 0⟩ : Hf)) (a := a_ask) (n := n_ask) rfl)
  clear HKW HRW HMW2 HGG HSG HLW
  go_upto_region 24 with (first
    | (show wpList _ _ _ (Oper.mk (some 140) (.load 29 (.tmp 9)) _ _ _ _ :: _) _ _; refine HRA.out.wpLoad 29 (.tmp 9) rfl rfl rfl _ Tryd.underlying29 rfl i29 ?_)
    | (go_at_call 15; refine (hear_join HT9.out.hb HFA.out HP.out rfl rfl rfl (.inr rfl) rfl HAB.out.2 (by have := HT9.out.ge; have := HT9.out.ne; have := H1.out; omega) (HT9.out.k HK.out) (HT9.out.one H1.out) 0).mono ?_; rintro e w6 ⟨v, rfl, ⟨m6, hv, om⟩, hf, ho⟩; have HT6 := hid (HT9.out.onB ho hf); have HM6 := hid om; have HV6 := hid hv; have HO6 := hid ho; clear hv om hf ho)
    | (show wpList _ _ _ (Oper.mk none (.store 29 (.tmp 23) (.tmp 142)) _ _ _ _ :: _) _ _; refine (Row.new' w6 _ frZ 29 _ rfl rfl).wpStore' 29 (.tmp 23) (.tmp 142) (frC ((⟨1, (5 : Int), b, a, 9, 2, false, (nonceOf a (5 : Int)), 0, 0⟩ : Hf).answer).k ((⟨1, (5 : Int), b, a, 9, 2, false, (nonceOf a (5 : Int)), 0, 0⟩ : Hf).answer).p ((⟨1, (5 : Int), b, a, 9, 2, false, (nonceOf a (5 : Int)), 0, 0⟩ : Hf).answer).tok ((⟨1, (5 : Int), b, a, 9, 2, false, (nonceOf a (5 : Int)), 0, 0⟩ : Hf).answer).non m6 ((⟨1, (5 : Int), b, a, 9, 2, false, (nonceOf a (5 : Int)), 0, 0⟩ : Hf).answer).bk) rfl rfl rfl HV6.out rfl (frC_m HM6.out) i29 ?_; intro wz6 HZ6))
  have HB6 : Hid (Below w6.heap.size w6 wz6) := by show Below _ _ _; rw [HZ6.out]; exact below_put _ _ _
  have HX6 : Hid (Row wz6 w6.heap.size (frC ((⟨1, (5 : Int), b, a, 9, 2, false, (nonceOf a (5 : Int)), 0, 0⟩ : Hf).answer).k ((⟨1, (5 : Int), b, a, 9, 2, false, (nonceOf a (5 : Int)), 0, 0⟩ : Hf).answer).p ((⟨1, (5 : Int), b, a, 9, 2, false, (nonceOf a (5 : Int)), 0, 0⟩ : Hf).answer).tok ((⟨1, (5 : Int), b, a, 9, 2, false, (nonceOf a (5 : Int)), 0, 0⟩ : Hf).answer).non m6 ((⟨1, (5 : Int), b, a, 9, 2, false, (nonceOf a (5 : Int)), 0, 0⟩ : Hf).answer).bk) 29) := by show Row _ _ _ _; rw [HZ6.out]; exact (Row.new' w6 _ frZ 29 _ rfl rfl).row _
  have HQW : Hid (Row w6 wc.heap.size _ 29) := HO6.out.row HRW2.out (fun e => by have := HRW2.out.at_; rw [e] at this; have h2 := HT9.out.hb.at_; rw [this] at h2; simp at h2)
  have HQ2 := hid (HQW.out.kept HB6.out HQW.out.lt)
  have HM7 : Hid (OwnB wz6 (q + 1) (.slice am 8 nm) ((⟨1, (5 : Int), b, a, 9, 2, false, (nonceOf a (5 : Int)), 0, 0⟩ : Hf).answer).bs) := (OwnB.only (HMW3.out.less HLQ.out) HO6.out (Nat.lt_succ_self q)).kept HB6.out
  have HM8 := hid (HM6.out.kept HB6.out)
  have HS4 := hid (same_yes (bs := ((⟨1, (5 : Int), b, a, 9, 2, false, (nonceOf a (5 : Int)), 0, 0⟩ : Hf).answer).bs) HM8.out HM7.out)
  obtain ⟨a6, n6, e6, -, -, -⟩ := HM6.out.shape
  replace e6 : m6 = .slice a6 8 n6 := e6.trans (congrArg (fun n => Value.slice a6 n n6) (ans8 _))
  have HE := hid (HT6.out.kept HB6.out).bel
  have d6 := HX6.out.cell 9 _ rfl
  have dw := HQ2.out.cell 9 _ rfl
  clear HX6 HQW HQ2 HM7 HM8 HT9 HT6 HB6 HZ6 HM6 HV6 HO6 HRA HRW2 HMW3 HFA
  subst e6
  go_wp2_with (go_at_call 20; refine HS4.out.mono ?_; rintro e wq4 ⟨rfl, hq⟩; subst hq)
  go_ret
  exact ⟨rfl, HE.out⟩
end Go.Proofs.YtjpllcliehgnfaaDoor
namespace Go.Proofs.YtjpllcliehgnfaaDoor
open Go.RowKit Go.Sort
set_option maxRecDepth 100000

set_option maxHeartbeats 8000000 in
/-- The Macs that are handed out are new memory, each its own. -/
theorem own_some {w : World} (PP : Int) (hp : ¬ PP = 0) (a b : Nat) (ha : a < 18446744073709551616) (hb : b < 18446744073709551616) (hK : KTab w) (h1 : 1 ≤ w.heap.size) :
    Calls Tryd.prog 7 #[.int .i64 PP, .int .u64 (a : Int), .int .u64 (b : Int)] w fun e w' => e = .returned (.bool true) ∧ Below w.heap.size w w' := by
  have HAB := hid (And.intro ha hb)
  have HK := hid hK
  have H1 := hid h1
  clear ha hb hK h1
  go_enter Tryd.func7, Tryd.ntmps7
  have HP := hid hp
  go_upto_region 4 with (first
    | (go_at_call_of 9 (Value.int IntKind.i64 1); refine (new_side 1 1 PP b a 9 rfl).mono ?_; rintro e w2 ⟨rfl, hf2, hb2⟩
       have HT2 : Hid (Tw w w.heap.size w1.heap.size (mk0 0 PP a b 9) (mk0 1 PP b a 9) w2) := ⟨HF1.out.kept hb2, hf2, HB1.out.trans (hb2.mono HB1.out.size), Row.lt HF1.out, Nat.le_refl _⟩
       clear hf2 hb2)
    | (go_at_call_of 9 (Value.int IntKind.i64 0); refine (new_side 0 0 PP a b 9 rfl).mono ?_; rintro e w1 ⟨rfl, hf1, hb1⟩; have HF1 := hid hf1; have HB1 := hid hb1; clear hf1 hb1))
  clear HF1 HB1
  generalize w1.heap.size = q at *
  have HT : Hid (Tw w w.heap.size q (⟨0, PP, a, b, 9, 0, false, 0#32, 0, 0⟩ : Hf) (⟨1, PP, b, a, 9, 0, false, 0#32, 0, 0⟩ : Hf) w2) := by
    have := HT2.out
    unfold mk0 at this
    rw [if_neg HP.out] at this
    exact this
  clear HT2
  clear hp
  have HLT11 : Hid (q < w2.heap.size) := HT.out.lt
  go_upto_region 7 with (first
    | (go_at_call 10; refine (start_yes HT.out.ha rfl rfl HAB.out.2 (HT.out.k HK.out) (Nat.le_trans H1.out HT.out.ge) 0 false).mono ?_; rintro e w11 ⟨v, rfl, ⟨m11, hv, om⟩, hf, ho⟩; have HT11 := hid (HT.out.onA ho hf); have HM11 := hid om; have HV11 := hid hv; have HO11 := hid ho; clear hv om hf ho)
    | (show wpList _ _ _ (Oper.mk none (.store 29 (.tmp 9) (.tmp 44)) _ _ _ _ :: _) _ _; refine (Row.new' w11 _ frZ 29 _ rfl rfl).wpStore' 29 (.tmp 9) (.tmp 44) (frC ((⟨0, PP, a, b, 9, 1, false, 0#32, 0, 0⟩ : Hf).ask).k ((⟨0, PP, a, b, 9, 1, false, 0#32, 0, 0⟩ : Hf).ask).p ((⟨0, PP, a, b, 9, 1, false, 0#32, 0, 0⟩ : Hf).ask).tok ((⟨0, PP, a, b, 9, 1, false, 0#32, 0, 0⟩ : Hf).ask).non m11 ((⟨0, PP, a, b, 9, 1, false, 0#32, 0, 0⟩ : Hf).ask).bk) rfl rfl rfl HV11.out rfl (frC_m HM11.out) i29 ?_; intro wz11 HZ11))
  have HB11 : Hid (Below w11.heap.size w11 wz11) := by show Below _ _ _; rw [HZ11.out]; exact below_put _ _ _
  have HR11 : Hid (q < w11.heap.size) := Nat.lt_of_lt_of_le (HLT11.out) HO11.out.size
  have HG11 : Hid (Btw q w11.heap.size m11) := btw_of HM11.out (HLT11.out)
  have HX11_ask : Hid (Bx q w11.heap.size ((⟨0, PP, a, b, 9, 1, false, 0#32, 0, 0⟩ : Hf).ask) m11 wz11) := by show Bx _ _ _ _ _; rw [HZ11.out]; exact Bx.new HM11.out (HT.out.lt) (Nat.lt_of_lt_of_le (HT.out.lt) HO11.out.size)
  have HU11 := hid (HT11.out.kept HB11.out)
  clear HT HLT11 HT11 HB11 HZ11 HM11 HV11 HO11
  generalize w11.heap.size = g11 at *
  have HLT12 : Hid (g11 < wz11.heap.size) := HX11_ask.out.row.lt
  go_upto_region 8 with (first
    | (show wpList _ _ _ (Oper.mk (some 48) (.load 29 (.tmp 9)) _ _ _ _ :: _) _ _; refine HX11_ask.out.row.wpLoad 29 (.tmp 9) rfl rfl rfl _ Tryd.underlying29 rfl i29 ?_)
    | (go_at_call 15; refine (hear_join HU11.out.hb HX11_ask.out.frin HP.out rfl rfl rfl (.inl rfl) rfl HAB.out.2 (by have := HU11.out.ge; have := HU11.out.ne; have := H1.out; omega) (HU11.out.k HK.out) (HU11.out.one H1.out) 0).mono ?_; rintro e w12 ⟨v, rfl, ⟨m12, hv, om⟩, hf, ho⟩; have HT12 := hid (HU11.out.onB ho hf); have HM12 := hid om; have HV12 := hid hv; have HO12 := hid ho; clear hv om hf ho)
    | (show wpList _ _ _ (Oper.mk none (.store 29 (.tmp 11) (.tmp 50)) _ _ _ _ :: _) _ _; refine (Row.new' w12 _ frZ 29 _ rfl rfl).wpStore' 29 (.tmp 11) (.tmp 50) (frC ((⟨1, PP, b, a, 9, 2, false, (nonceOf a PP), 0, 0⟩ : Hf).answer).k ((⟨1, PP, b, a, 9, 2, false, (nonceOf a PP), 0, 0⟩ : Hf).answer).p ((⟨1, PP, b, a, 9, 2, false, (nonceOf a PP), 0, 0⟩ : Hf).answer).tok ((⟨1, PP, b, a, 9, 2, false, (nonceOf a PP), 0, 0⟩ : Hf).answer).non m12 ((⟨1, PP, b, a, 9, 2, false, (nonceOf a PP), 0, 0⟩ : Hf).answer).bk) rfl rfl rfl HV12.out rfl (frC_m HM12.out) i29 ?_; intro wz12 HZ12))
  have HX12_ask := hid (HX11_ask.out.only HO12.out (Nat.le_refl _))
  clear HX11_ask
  have HB12 : Hid (Below w12.heap.size w12 wz12) := by show Below _ _ _; rw [HZ12.out]; exact below_put _ _ _
  have HR12 : Hid (g11 < w12.heap.size) := Nat.lt_of_lt_of_le (HLT12.out) HO12.out.size
  have HG12 : Hid (Btw g11 w12.heap.size m12) := btw_of HM12.out (HLT12.out)
  have HX12_one : Hid (Bx q w12.heap.size ((⟨1, PP, b, a, 9, 2, false, (nonceOf a PP), 0, 0⟩ : Hf).answer) m12 wz12) := by show Bx _ _ _ _ _; rw [HZ12.out]; exact Bx.new HM12.out (HU11.out.lt) (Nat.lt_of_lt_of_le (HU11.out.lt) HO12.out.size)
  have HY12_ask := hid (HX12_ask.out.kept HB12.out)
  clear HX12_ask
  have HU12 := hid (HT12.out.kept HB12.out)
  clear HU11 HLT12 HT12 HB12 HZ12 HM12 HV12 HO12
  generalize w12.heap.size = g12 at *
  have HLT13 : Hid (g12 < wz12.heap.size) := HX12_one.out.row.lt
  go_upto_region 9 with (first
    | (show wpList _ _ _ (Oper.mk (some 54) (.load 29 (.tmp 9)) _ _ _ _ :: _) _ _; refine HY12_ask.out.row.wpLoad 29 (.tmp 9) rfl rfl rfl _ Tryd.underlying29 rfl i29 ?_)
    | (go_at_call 15; refine (hear_join HU12.out.hb HY12_ask.out.frin HP.out rfl rfl rfl (.inr rfl) rfl HAB.out.2 (by have := HU12.out.ge; have := HU12.out.ne; have := H1.out; omega) (HU12.out.k HK.out) (HU12.out.one H1.out) 0).mono ?_; rintro e w13 ⟨v, rfl, ⟨m13, hv, om⟩, hf, ho⟩; have HT13 := hid (HU12.out.onB ho hf); have HM13 := hid om; have HV13 := hid hv; have HO13 := hid ho; clear hv om hf ho)
    | (show wpList _ _ _ (Oper.mk none (.store 29 (.tmp 13) (.tmp 56)) _ _ _ _ :: _) _ _; refine (Row.new' w13 _ frZ 29 _ rfl rfl).wpStore' 29 (.tmp 13) (.tmp 56) (frC ((⟨1, PP, b, a, 9, 2, false, (nonceOf a PP), 0, 0⟩ : Hf).answer).k ((⟨1, PP, b, a, 9, 2, false, (nonceOf a PP), 0, 0⟩ : Hf).answer).p ((⟨1, PP, b, a, 9, 2, false, (nonceOf a PP), 0, 0⟩ : Hf).answer).tok ((⟨1, PP, b, a, 9, 2, false, (nonceOf a PP), 0, 0⟩ : Hf).answer).non m13 ((⟨1, PP, b, a, 9, 2, false, (nonceOf a PP), 0, 0⟩ : Hf).answer).bk) rfl rfl rfl HV13.out rfl (frC_m HM13.out) i29 ?_; intro wz13 HZ13))
  have HX13_ask := hid (HY12_ask.out.only HO13.out (Nat.le_refl _))
  clear HY12_ask
  have HX13_one := hid (HX12_one.out.only HO13.out (Nat.le_refl _))
  clear HX12_one
  have HB13 : Hid (Below w13.heap.size w13 wz13) := by show Below _ _ _; rw [HZ13.out]; exact below_put _ _ _
  have HR13 : Hid (g12 < w13.heap.size) := Nat.lt_of_lt_of_le (HLT13.out) HO13.out.size
  have HG13 : Hid (Btw g12 w13.heap.size m13) := btw_of HM13.out (HLT13.out)
  have HX13_two : Hid (Bx q w13.heap.size ((⟨1, PP, b, a, 9, 2, false, (nonceOf a PP), 0, 0⟩ : Hf).answer) m13 wz13) := by show Bx _ _ _ _ _; rw [HZ13.out]; exact Bx.new HM13.out (HU12.out.lt) (Nat.lt_of_lt_of_le (HU12.out.lt) HO13.out.size)
  have HY13_ask := hid (HX13_ask.out.kept HB13.out)
  clear HX13_ask
  have HY13_one := hid (HX13_one.out.kept HB13.out)
  clear HX13_one
  have HU13 := hid (HT13.out.kept HB13.out)
  clear HU12 HLT13 HT13 HB13 HZ13 HM13 HV13 HO13
  generalize w13.heap.size = g13 at *
  have HTK : Hid (Calls Tryd.prog 11 #[.pointer (some ⟨q, 0, none⟩), .int .u64 1000] wz13 (Ans wz13 q (⟨1, PP, b, a, 9, 2, false, (nonceOf a PP), 1, 1000⟩ : Hf) (⟨1, PP, b, a, 9, 2, false, (nonceOf a PP), 1, 1000⟩ : Hf).answer true)) := by
    have h := tick_again HU13.out.hb (by show (0 : Nat) ≤ 16; decide) 1000 (by decide) (by show decide ((2 : Int) = 1 ∨ (2 : Int) = 2) = true; decide) (by show (0 : Nat) ≤ 1000; decide) (by show Nat.min (1000 * 2 ^ 0) 60000 ≤ 1000 - 0; decide) (by show ¬ ((0 : Nat) : Int) = 9; decide) HAB.out.1 (HU13.out.k HK.out) (by have := HU13.out.ge; have := HU13.out.ne; have := H1.out; omega)
    rw [if_neg (by show ¬ (2 : Int) = 1; decide)] at h
    exact h
  have HLT14 : Hid (g13 < wz13.heap.size) := HX13_two.out.row.lt
  go_upto_region 10 with (first
    | (go_at_call 11; refine (HTK.out).mono ?_; rintro e w14 ⟨v, rfl, ⟨m14, hv, om⟩, hf, ho⟩; have HT14 := hid (HU13.out.onB ho hf); have HM14 := hid om; have HV14 := hid hv; have HO14 := hid ho; clear hv om hf ho)
    | (show wpList _ _ _ (Oper.mk none (.store 29 (.tmp 15) (.tmp 61)) _ _ _ _ :: _) _ _; refine (Row.new' w14 _ frZ 29 _ rfl rfl).wpStore' 29 (.tmp 15) (.tmp 61) (frC ((⟨1, PP, b, a, 9, 2, false, (nonceOf a PP), 1, 1000⟩ : Hf).answer).k ((⟨1, PP, b, a, 9, 2, false, (nonceOf a PP), 1, 1000⟩ : Hf).answer).p ((⟨1, PP, b, a, 9, 2, false, (nonceOf a PP), 1, 1000⟩ : Hf).answer).tok ((⟨1, PP, b, a, 9, 2, false, (nonceOf a PP), 1, 1000⟩ : Hf).answer).non m14 ((⟨1, PP, b, a, 9, 2, false, (nonceOf a PP), 1, 1000⟩ : Hf).answer).bk) rfl rfl rfl HV14.out rfl (frC_m HM14.out) i29 ?_; intro wz14 HZ14))
  have HX14_ask := hid (HY13_ask.out.only HO14.out (Nat.le_refl _))
  clear HY13_ask
  have HX14_one := hid (HY13_one.out.only HO14.out (Nat.le_refl _))
  clear HY13_one
  have HX14_two := hid (HX13_two.out.only HO14.out (Nat.le_refl _))
  clear HX13_two
  have HB14 : Hid (Below w14.heap.size w14 wz14) := by show Below _ _ _; rw [HZ14.out]; exact below_put _ _ _
  have HR14 : Hid (g13 < w14.heap.size) := Nat.lt_of_lt_of_le (HLT14.out) HO14.out.size
  have HG14 : Hid (Btw g13 w14.heap.size m14) := btw_of HM14.out (HLT14.out)
  have HX14_thr : Hid (Bx q w14.heap.size ((⟨1, PP, b, a, 9, 2, false, (nonceOf a PP), 1, 1000⟩ : Hf).answer) m14 wz14) := by show Bx _ _ _ _ _; rw [HZ14.out]; exact Bx.new HM14.out (HU13.out.lt) (Nat.lt_of_lt_of_le (HU13.out.lt) HO14.out.size)
  have HY14_ask := hid (HX14_ask.out.kept HB14.out)
  clear HX14_ask
  have HY14_one := hid (HX14_one.out.kept HB14.out)
  clear HX14_one
  have HY14_two := hid (HX14_two.out.kept HB14.out)
  clear HX14_two
  have HU14 := hid (HT14.out.kept HB14.out)
  clear HU13 HLT14 HT14 HB14 HZ14 HM14 HV14 HO14
  generalize w14.heap.size = g14 at *
  clear HTK
  have HCX := hid (bx_copied HY14_one.out (by rw [ans8]; decide))
  go_upto_region 11 with (first
    | (show wpList _ _ _ (Oper.mk (some 65) (.load 29 (.tmp 11)) _ _ _ _ :: _) _ _; refine HY14_one.out.row.wpLoad 29 (.tmp 11) rfl rfl rfl _ Tryd.underlying29 rfl i29 ?_)
    | (go_at_call 19; refine HCX.out.mono ?_; rintro e wc ⟨vc, rfl, ⟨dc, mc, rfl, od, om⟩, hbc⟩; have HTC := hid (HU14.out.kept hbc); have HFC := hid (frk_in (d := dc) om); have HBC := hid hbc; clear od om hbc)
    | (go_at_call 15; refine (hear_joined HTC.out.ha HFC.out HP.out rfl rfl rfl (.inl rfl) rfl (Nat.le_trans H1.out HTC.out.ge) (HTC.out.k HK.out) (HTC.out.one H1.out) 0).mono ?_; rintro e w15 ⟨v, rfl, ⟨m15, hv, om⟩, hf, ho⟩; have HT15 := hid (HTC.out.onA ho hf); have HM15 := hid om; have HV15 := hid hv; have HO15 := hid ho; clear hv om hf ho)
    | (show wpList _ _ _ (Oper.mk none (.store 29 (.tmp 17) (.tmp 68)) _ _ _ _ :: _) _ _; refine (Row.new' w15 _ frZ 29 _ rfl rfl).wpStore' 29 (.tmp 17) (.tmp 68) (frC ((⟨0, PP, a, b, 9, 3, false, 0#32, 0, 0⟩ : Hf).proves (nonceOf b PP)).k ((⟨0, PP, a, b, 9, 3, false, 0#32, 0, 0⟩ : Hf).proves (nonceOf b PP)).p ((⟨0, PP, a, b, 9, 3, false, 0#32, 0, 0⟩ : Hf).proves (nonceOf b PP)).tok ((⟨0, PP, a, b, 9, 3, false, 0#32, 0, 0⟩ : Hf).proves (nonceOf b PP)).non m15 ((⟨0, PP, a, b, 9, 3, false, 0#32, 0, 0⟩ : Hf).proves (nonceOf b PP)).bk) rfl rfl rfl HV15.out rfl (frC_m HM15.out) i29 ?_; intro wz15 HZ15))
  have HLT15 : Hid (g14 < wc.heap.size) := (HX14_thr.out.kept HBC.out).row.lt
  have HX15_ask := hid ((HY14_ask.out.kept HBC.out).only HO15.out (by have := HTC.out.ne; omega))
  clear HY14_ask
  have HX15_one := hid ((HY14_one.out.kept HBC.out).only HO15.out (by have := HTC.out.ne; omega))
  clear HY14_one
  have HX15_two := hid ((HY14_two.out.kept HBC.out).only HO15.out (by have := HTC.out.ne; omega))
  clear HY14_two
  have HX15_thr := hid ((HX14_thr.out.kept HBC.out).only HO15.out (by have := HTC.out.ne; omega))
  clear HX14_thr
  have HB15 : Hid (Below w15.heap.size w15 wz15) := by show Below _ _ _; rw [HZ15.out]; exact below_put _ _ _
  have HR15 : Hid (g14 < w15.heap.size) := Nat.lt_of_lt_of_le HLT15.out HO15.out.size
  have HG15 : Hid (Btw g14 w15.heap.size m15) := btw_of HM15.out HLT15.out
  have HX15_fou : Hid (Bx q w15.heap.size ((⟨0, PP, a, b, 9, 3, false, 0#32, 0, 0⟩ : Hf).proves (nonceOf b PP)) m15 wz15) := by show Bx _ _ _ _ _; rw [HZ15.out]; exact Bx.new HM15.out HTC.out.lt (Nat.lt_of_lt_of_le HTC.out.lt HO15.out.size)
  have HY15_ask := hid (HX15_ask.out.kept HB15.out)
  clear HX15_ask
  have HY15_one := hid (HX15_one.out.kept HB15.out)
  clear HX15_one
  have HY15_two := hid (HX15_two.out.kept HB15.out)
  clear HX15_two
  have HY15_thr := hid (HX15_thr.out.kept HB15.out)
  clear HX15_thr
  have HU15 := hid (HT15.out.kept HB15.out)
  clear HU14 HTC HFC HBC HCX HLT15 HT15 HB15 HZ15 HM15 HV15 HO15
  generalize w15.heap.size = g15 at *
  have HCX := hid (bx_copied HY15_one.out (by rw [ans8]; decide))
  go_upto_region 12 with (first
    | (show wpList _ _ _ (Oper.mk (some 72) (.load 29 (.tmp 11)) _ _ _ _ :: _) _ _; refine HY15_one.out.row.wpLoad 29 (.tmp 11) rfl rfl rfl _ Tryd.underlying29 rfl i29 ?_)
    | (go_at_call 19; refine HCX.out.mono ?_; rintro e wc ⟨vc, rfl, ⟨dc, mc, rfl, od, om⟩, hbc⟩; have HTC := hid (HU15.out.kept hbc); have HFC := hid (frk_in (d := dc) om); have HBC := hid hbc; clear od om hbc)
    | (go_at_call 15; refine (hear_joined HTC.out.ha HFC.out HP.out rfl rfl rfl (.inr rfl) rfl (Nat.le_trans H1.out HTC.out.ge) (HTC.out.k HK.out) (HTC.out.one H1.out) 0).mono ?_; rintro e w16 ⟨v, rfl, ⟨m16, hv, om⟩, hf, ho⟩; have HT16 := hid (HTC.out.onA ho hf); have HM16 := hid om; have HV16 := hid hv; have HO16 := hid ho; clear hv om hf ho)
    | (show wpList _ _ _ (Oper.mk none (.store 29 (.tmp 19) (.tmp 75)) _ _ _ _ :: _) _ _; refine (Row.new' w16 _ frZ 29 _ rfl rfl).wpStore' 29 (.tmp 19) (.tmp 75) (frC ((⟨0, PP, a, b, 9, 3, false, 0#32, 0, 0⟩ : Hf).proves (nonceOf b PP)).k ((⟨0, PP, a, b, 9, 3, false, 0#32, 0, 0⟩ : Hf).proves (nonceOf b PP)).p ((⟨0, PP, a, b, 9, 3, false, 0#32, 0, 0⟩ : Hf).proves (nonceOf b PP)).tok ((⟨0, PP, a, b, 9, 3, false, 0#32, 0, 0⟩ : Hf).proves (nonceOf b PP)).non m16 ((⟨0, PP, a, b, 9, 3, false, 0#32, 0, 0⟩ : Hf).proves (nonceOf b PP)).bk) rfl rfl rfl HV16.out rfl (frC_m HM16.out) i29 ?_; intro wz16 HZ16))
  have HLT16 : Hid (g15 < wc.heap.size) := (HX15_fou.out.kept HBC.out).row.lt
  have HX16_ask := hid ((HY15_ask.out.kept HBC.out).only HO16.out (by have := HTC.out.ne; omega))
  clear HY15_ask
  have HX16_one := hid ((HY15_one.out.kept HBC.out).only HO16.out (by have := HTC.out.ne; omega))
  clear HY15_one
  have HX16_two := hid ((HY15_two.out.kept HBC.out).only HO16.out (by have := HTC.out.ne; omega))
  clear HY15_two
  have HX16_thr := hid ((HY15_thr.out.kept HBC.out).only HO16.out (by have := HTC.out.ne; omega))
  clear HY15_thr
  have HX16_fou := hid ((HX15_fou.out.kept HBC.out).only HO16.out (by have := HTC.out.ne; omega))
  clear HX15_fou
  have HB16 : Hid (Below w16.heap.size w16 wz16) := by show Below _ _ _; rw [HZ16.out]; exact below_put _ _ _
  have HR16 : Hid (g15 < w16.heap.size) := Nat.lt_of_lt_of_le HLT16.out HO16.out.size
  have HG16 : Hid (Btw g15 w16.heap.size m16) := btw_of HM16.out HLT16.out
  have HX16_fiv : Hid (Bx q w16.heap.size ((⟨0, PP, a, b, 9, 3, false, 0#32, 0, 0⟩ : Hf).proves (nonceOf b PP)) m16 wz16) := by show Bx _ _ _ _ _; rw [HZ16.out]; exact Bx.new HM16.out HTC.out.lt (Nat.lt_of_lt_of_le HTC.out.lt HO16.out.size)
  have HY16_ask := hid (HX16_ask.out.kept HB16.out)
  clear HX16_ask
  have HY16_one := hid (HX16_one.out.kept HB16.out)
  clear HX16_one
  have HY16_two := hid (HX16_two.out.kept HB16.out)
  clear HX16_two
  have HY16_thr := hid (HX16_thr.out.kept HB16.out)
  clear HX16_thr
  have HY16_fou := hid (HX16_fou.out.kept HB16.out)
  clear HX16_fou
  have HU16 := hid (HT16.out.kept HB16.out)
  clear HU15 HTC HFC HBC HCX HLT16 HT16 HB16 HZ16 HM16 HV16 HO16
  generalize w16.heap.size = g16 at *
  have HS1 := hid (same_yes HY16_one.out.own HY16_two.out.own)
  have HS2 := hid (same_yes (bs := ((⟨1, PP, b, a, 9, 2, false, (nonceOf a PP), 0, 0⟩ : Hf).answer).bs) HY16_one.out.own HY16_thr.out.own)
  have HS3 := hid (same_yes HY16_fou.out.own HX16_fiv.out.own)
  have hall : ∀ y ∈ ([(g11, (⟨0, PP, a, b, 9, 1, false, 0#32, 0, 0⟩ : Hf).ask, m11), (g12, (⟨1, PP, b, a, 9, 2, false, (nonceOf a PP), 0, 0⟩ : Hf).answer, m12), (g13, (⟨1, PP, b, a, 9, 2, false, (nonceOf a PP), 0, 0⟩ : Hf).answer, m13), (g14, (⟨1, PP, b, a, 9, 2, false, (nonceOf a PP), 1, 1000⟩ : Hf).answer, m14), (g15, (⟨0, PP, a, b, 9, 3, false, 0#32, 0, 0⟩ : Hf).proves (nonceOf b PP), m15), (g16, (⟨0, PP, a, b, 9, 3, false, 0#32, 0, 0⟩ : Hf).proves (nonceOf b PP), m16)] : List (Nat × Fo × Value)), Bx q y.1 y.2.1 y.2.2 wz16 := by
    simp only [List.mem_cons, List.not_mem_nil, or_false]
    rintro y (rfl | rfl | rfl | rfl | rfl | rfl)
    · exact HY16_ask.out
    · exact HY16_one.out
    · exact HY16_two.out
    · exact HY16_thr.out
    · exact HY16_fou.out
    · exact HX16_fiv.out
  have HKP : Hid (Kp w (wz16.alloc (.cells #[.slice none 0 0, .slice none 0 0] 51)) w.heap.size q wz16.heap.size (⟨0, PP, a, b, 9, 3, false, 0#32, 0, 0⟩ : Hf) (⟨1, PP, b, a, 9, 2, false, (nonceOf a PP), 1, 1000⟩ : Hf) [(g11, (⟨0, PP, a, b, 9, 1, false, 0#32, 0, 0⟩ : Hf).ask, m11), (g12, (⟨1, PP, b, a, 9, 2, false, (nonceOf a PP), 0, 0⟩ : Hf).answer, m12), (g13, (⟨1, PP, b, a, 9, 2, false, (nonceOf a PP), 0, 0⟩ : Hf).answer, m13), (g14, (⟨1, PP, b, a, 9, 2, false, (nonceOf a PP), 1, 1000⟩ : Hf).answer, m14), (g15, (⟨0, PP, a, b, 9, 3, false, 0#32, 0, 0⟩ : Hf).proves (nonceOf b PP), m15), (g16, (⟨0, PP, a, b, 9, 3, false, 0#32, 0, 0⟩ : Hf).proves (nonceOf b PP), m16)] []) := Kp.new HU16.out hall
  clear hall
  have c_one := HY16_one.out.row.cell 9 _ rfl
  have c_two := HY16_two.out.row.cell 9 _ rfl
  have c_thr := HY16_thr.out.row.cell 9 _ rfl
  have c_fou := HY16_fou.out.row.cell 9 _ rfl
  have c_fiv := HX16_fiv.out.row.cell 9 _ rfl
  obtain ⟨a_one, n_one, e_one⟩ := HY16_one.out.slice
  rw [show ((⟨1, PP, b, a, 9, 2, false, (nonceOf a PP), 0, 0⟩ : Hf).answer).bs.length = 8 from ans8 _] at e_one
  obtain ⟨a_two, n_two, e_two⟩ := HY16_two.out.slice
  rw [show ((⟨1, PP, b, a, 9, 2, false, (nonceOf a PP), 0, 0⟩ : Hf).answer).bs.length = 8 from ans8 _] at e_two
  obtain ⟨a_thr, n_thr, e_thr⟩ := HY16_thr.out.slice
  rw [show ((⟨1, PP, b, a, 9, 2, false, (nonceOf a PP), 1, 1000⟩ : Hf).answer).bs.length = 8 from ans8 _] at e_thr
  obtain ⟨a_fou, n_fou, e_fou⟩ := HY16_fou.out.slice
  rw [show ((⟨0, PP, a, b, 9, 3, false, 0#32, 0, 0⟩ : Hf).proves (nonceOf b PP)).bs.length = 20 from prf20 _ _] at e_fou
  obtain ⟨a_fiv, n_fiv, e_fiv⟩ := HX16_fiv.out.slice
  rw [show ((⟨0, PP, a, b, 9, 3, false, 0#32, 0, 0⟩ : Hf).proves (nonceOf b PP)).bs.length = 20 from prf20 _ _] at e_fiv
  obtain ⟨a_ask, n_ask, e_ask⟩ := HY16_ask.out.slice
  replace e_ask : m11 = .slice a_ask 0 n_ask := e_ask
  subst e_ask
  clear HY16_ask
  clear HY16_one
  clear HY16_two
  clear HY16_thr
  clear HY16_fou
  clear HX16_fiv
  clear HU16
  subst e_one
  subst e_two
  subst e_thr
  subst e_fou
  subst e_fiv
  go_upto_region 14 with (first
    | (go_at_call 20; refine HS1.out.mono ?_; clear HS1; rintro e wq1 ⟨rfl, hq⟩; subst hq)
    | (go_at_call 20; refine HS2.out.mono ?_; clear HS2; rintro e wq2 ⟨rfl, hq⟩; subst hq)
    | (go_at_call 20; refine HS3.out.mono ?_; clear HS3; rintro e wq3 ⟨rfl, hq⟩; subst hq))
  clear c_one c_two c_thr c_fou c_fiv
  go_upto_region 15 with fail
  revert HKP
  generalize wq3.alloc (.cells #[.slice none 0 0, .slice none 0 0] 51) = wk0
  generalize wq3.heap.size = bk
  intro HKP
  have HBone := hid (HKP.out.bx (g12, (⟨1, PP, b, a, 9, 2, false, (nonceOf a PP), 0, 0⟩ : Hf).answer, (Value.slice a_one 8 n_one)) (List.Mem.tail _ (List.Mem.head _)))
  have c_one := HBone.out.row.cell 9 _ rfl
  have HQone : Hid (Calls Tryd.prog 21 #[.pointer (some ⟨bk, 0, none⟩), (Value.slice a_one 8 n_one)] wk0 fun e w' => e = .returned (.tuple #[]) ∧ Kp w w' w.heap.size q bk (⟨0, PP, a, b, 9, 3, false, 0#32, 0, 0⟩ : Hf) (⟨1, PP, b, a, 9, 2, false, (nonceOf a PP), 1, 1000⟩ : Hf) [(g11, (⟨0, PP, a, b, 9, 1, false, 0#32, 0, 0⟩ : Hf).ask, (Value.slice a_ask 0 n_ask)), (g12, (⟨1, PP, b, a, 9, 2, false, (nonceOf a PP), 0, 0⟩ : Hf).answer, (Value.slice a_one 8 n_one)), (g13, (⟨1, PP, b, a, 9, 2, false, (nonceOf a PP), 0, 0⟩ : Hf).answer, (Value.slice a_two 8 n_two)), (g14, (⟨1, PP, b, a, 9, 2, false, (nonceOf a PP), 1, 1000⟩ : Hf).answer, (Value.slice a_thr 8 n_thr)), (g15, (⟨0, PP, a, b, 9, 3, false, 0#32, 0, 0⟩ : Hf).proves (nonceOf b PP), (Value.slice a_fou 20 n_fou)), (g16, (⟨0, PP, a, b, 9, 3, false, 0#32, 0, 0⟩ : Hf).proves (nonceOf b PP), (Value.slice a_fiv 20 n_fiv))] [(Value.slice a_one 8 n_one)]) := HKP.out.keep (y := (g12, (⟨1, PP, b, a, 9, 2, false, (nonceOf a PP), 0, 0⟩ : Hf).answer, (Value.slice a_one 8 n_one))) (List.Mem.tail _ (List.Mem.head _)) (Nat.le_trans (Nat.le_of_eq (ans8 (⟨1, PP, b, a, 9, 2, false, (nonceOf a PP), 0, 0⟩ : Hf))) (by decide)) (by show (_ : Nat) ≤ 1000; exact Nat.le_trans (by decide : 0 ≤ 5) (by decide)) (by intro u hu; cases hu)
  go_upto_region 16 with (go_at_call 21; refine HQone.out.mono ?_; rintro e wk1 ⟨rfl, hk1⟩; have HK1 := hid hk1; clear hk1)
  clear HQone HBone c_one HKP
  have HBtwo := hid (HK1.out.bx (g13, (⟨1, PP, b, a, 9, 2, false, (nonceOf a PP), 0, 0⟩ : Hf).answer, (Value.slice a_two 8 n_two)) (List.Mem.tail _ (List.Mem.tail _ (List.Mem.head _))))
  have c_two := HBtwo.out.row.cell 9 _ rfl
  have HQtwo : Hid (Calls Tryd.prog 21 #[.pointer (some ⟨bk, 0, none⟩), (Value.slice a_two 8 n_two)] wk1 fun e w' => e = .returned (.tuple #[]) ∧ Kp w w' w.heap.size q bk (⟨0, PP, a, b, 9, 3, false, 0#32, 0, 0⟩ : Hf) (⟨1, PP, b, a, 9, 2, false, (nonceOf a PP), 1, 1000⟩ : Hf) [(g11, (⟨0, PP, a, b, 9, 1, false, 0#32, 0, 0⟩ : Hf).ask, (Value.slice a_ask 0 n_ask)), (g12, (⟨1, PP, b, a, 9, 2, false, (nonceOf a PP), 0, 0⟩ : Hf).answer, (Value.slice a_one 8 n_one)), (g13, (⟨1, PP, b, a, 9, 2, false, (nonceOf a PP), 0, 0⟩ : Hf).answer, (Value.slice a_two 8 n_two)), (g14, (⟨1, PP, b, a, 9, 2, false, (nonceOf a PP), 1, 1000⟩ : Hf).answer, (Value.slice a_thr 8 n_thr)), (g15, (⟨0, PP, a, b, 9, 3, false, 0#32, 0, 0⟩ : Hf).proves (nonceOf b PP), (Value.slice a_fou 20 n_fou)), (g16, (⟨0, PP, a, b, 9, 3, false, 0#32, 0, 0⟩ : Hf).proves (nonceOf b PP), (Value.slice a_fiv 20 n_fiv))] [(Value.slice a_one 8 n_one), (Value.slice a_two 8 n_two)]) := HK1.out.keep (y := (g13, (⟨1, PP, b, a, 9, 2, false, (nonceOf a PP), 0, 0⟩ : Hf).answer, (Value.slice a_two 8 n_two))) (List.Mem.tail _ (List.Mem.tail _ (List.Mem.head _))) (Nat.le_trans (Nat.le_of_eq (ans8 (⟨1, PP, b, a, 9, 2, false, (nonceOf a PP), 0, 0⟩ : Hf))) (by decide)) (by show (_ : Nat) ≤ 1000; exact Nat.le_trans (by decide : 1 ≤ 5) (by decide)) (by
      simp only [List.mem_cons, List.not_mem_nil, or_false]
      rintro u (rfl)
      · exact btw_ne HG12.out HG13.out (by have := HR12.out; have := HR13.out; have := HR14.out; have := HR15.out; have := HR16.out; omega))
  go_upto_region 17 with (go_at_call 21; refine HQtwo.out.mono ?_; rintro e wk2 ⟨rfl, hk2⟩; have HK2 := hid hk2; clear hk2)
  clear HQtwo HBtwo c_two HK1
  have HBthr := hid (HK2.out.bx (g14, (⟨1, PP, b, a, 9, 2, false, (nonceOf a PP), 1, 1000⟩ : Hf).answer, (Value.slice a_thr 8 n_thr)) (List.Mem.tail _ (List.Mem.tail _ (List.Mem.tail _ (List.Mem.head _)))))
  have c_thr := HBthr.out.row.cell 9 _ rfl
  have HQthr : Hid (Calls Tryd.prog 21 #[.pointer (some ⟨bk, 0, none⟩), (Value.slice a_thr 8 n_thr)] wk2 fun e w' => e = .returned (.tuple #[]) ∧ Kp w w' w.heap.size q bk (⟨0, PP, a, b, 9, 3, false, 0#32, 0, 0⟩ : Hf) (⟨1, PP, b, a, 9, 2, false, (nonceOf a PP), 1, 1000⟩ : Hf) [(g11, (⟨0, PP, a, b, 9, 1, false, 0#32, 0, 0⟩ : Hf).ask, (Value.slice a_ask 0 n_ask)), (g12, (⟨1, PP, b, a, 9, 2, false, (nonceOf a PP), 0, 0⟩ : Hf).answer, (Value.slice a_one 8 n_one)), (g13, (⟨1, PP, b, a, 9, 2, false, (nonceOf a PP), 0, 0⟩ : Hf).answer, (Value.slice a_two 8 n_two)), (g14, (⟨1, PP, b, a, 9, 2, false, (nonceOf a PP), 1, 1000⟩ : Hf).answer, (Value.slice a_thr 8 n_thr)), (g15, (⟨0, PP, a, b, 9, 3, false, 0#32, 0, 0⟩ : Hf).proves (nonceOf b PP), (Value.slice a_fou 20 n_fou)), (g16, (⟨0, PP, a, b, 9, 3, false, 0#32, 0, 0⟩ : Hf).proves (nonceOf b PP), (Value.slice a_fiv 20 n_fiv))] [(Value.slice a_one 8 n_one), (Value.slice a_two 8 n_two), (Value.slice a_thr 8 n_thr)]) := HK2.out.keep (y := (g14, (⟨1, PP, b, a, 9, 2, false, (nonceOf a PP), 1, 1000⟩ : Hf).answer, (Value.slice a_thr 8 n_thr))) (List.Mem.tail _ (List.Mem.tail _ (List.Mem.tail _ (List.Mem.head _)))) (Nat.le_trans (Nat.le_of_eq (ans8 (⟨1, PP, b, a, 9, 2, false, (nonceOf a PP), 1, 1000⟩ : Hf))) (by decide)) (by show (_ : Nat) ≤ 1000; exact Nat.le_trans (by decide : 2 ≤ 5) (by decide)) (by
      simp only [List.mem_cons, List.not_mem_nil, or_false]
      rintro u (rfl | rfl)
      · exact btw_ne HG12.out HG14.out (by have := HR12.out; have := HR13.out; have := HR14.out; have := HR15.out; have := HR16.out; omega)
      · exact btw_ne HG13.out HG14.out (by have := HR12.out; have := HR13.out; have := HR14.out; have := HR15.out; have := HR16.out; omega))
  go_upto_region 18 with (go_at_call 21; refine HQthr.out.mono ?_; rintro e wk3 ⟨rfl, hk3⟩; have HK3 := hid hk3; clear hk3)
  clear HQthr HBthr c_thr HK2
  have HBfou := hid (HK3.out.bx (g15, (⟨0, PP, a, b, 9, 3, false, 0#32, 0, 0⟩ : Hf).proves (nonceOf b PP), (Value.slice a_fou 20 n_fou)) (List.Mem.tail _ (List.Mem.tail _ (List.Mem.tail _ (List.Mem.tail _ (List.Mem.head _))))))
  have c_fou := HBfou.out.row.cell 9 _ rfl
  have HQfou : Hid (Calls Tryd.prog 21 #[.pointer (some ⟨bk, 0, none⟩), (Value.slice a_fou 20 n_fou)] wk3 fun e w' => e = .returned (.tuple #[]) ∧ Kp w w' w.heap.size q bk (⟨0, PP, a, b, 9, 3, false, 0#32, 0, 0⟩ : Hf) (⟨1, PP, b, a, 9, 2, false, (nonceOf a PP), 1, 1000⟩ : Hf) [(g11, (⟨0, PP, a, b, 9, 1, false, 0#32, 0, 0⟩ : Hf).ask, (Value.slice a_ask 0 n_ask)), (g12, (⟨1, PP, b, a, 9, 2, false, (nonceOf a PP), 0, 0⟩ : Hf).answer, (Value.slice a_one 8 n_one)), (g13, (⟨1, PP, b, a, 9, 2, false, (nonceOf a PP), 0, 0⟩ : Hf).answer, (Value.slice a_two 8 n_two)), (g14, (⟨1, PP, b, a, 9, 2, false, (nonceOf a PP), 1, 1000⟩ : Hf).answer, (Value.slice a_thr 8 n_thr)), (g15, (⟨0, PP, a, b, 9, 3, false, 0#32, 0, 0⟩ : Hf).proves (nonceOf b PP), (Value.slice a_fou 20 n_fou)), (g16, (⟨0, PP, a, b, 9, 3, false, 0#32, 0, 0⟩ : Hf).proves (nonceOf b PP), (Value.slice a_fiv 20 n_fiv))] [(Value.slice a_one 8 n_one), (Value.slice a_two 8 n_two), (Value.slice a_thr 8 n_thr), (Value.slice a_fou 20 n_fou)]) := HK3.out.keep (y := (g15, (⟨0, PP, a, b, 9, 3, false, 0#32, 0, 0⟩ : Hf).proves (nonceOf b PP), (Value.slice a_fou 20 n_fou))) (List.Mem.tail _ (List.Mem.tail _ (List.Mem.tail _ (List.Mem.tail _ (List.Mem.head _))))) (Nat.le_trans (Nat.le_of_eq (prf20 (⟨0, PP, a, b, 9, 3, false, 0#32, 0, 0⟩ : Hf) (nonceOf b PP))) (by decide)) (by show (_ : Nat) ≤ 1000; exact Nat.le_trans (by decide : 3 ≤ 5) (by decide)) (by
      simp only [List.mem_cons, List.not_mem_nil, or_false]
      rintro u (rfl | rfl | rfl)
      · exact btw_ne HG12.out HG15.out (by have := HR12.out; have := HR13.out; have := HR14.out; have := HR15.out; have := HR16.out; omega)
      · exact btw_ne HG13.out HG15.out (by have := HR12.out; have := HR13.out; have := HR14.out; have := HR15.out; have := HR16.out; omega)
      · exact btw_ne HG14.out HG15.out (by have := HR12.out; have := HR13.out; have := HR14.out; have := HR15.out; have := HR16.out; omega))
  go_upto_region 19 with (go_at_call 21; refine HQfou.out.mono ?_; rintro e wk4 ⟨rfl, hk4⟩; have HK4 := hid hk4; clear hk4)
  clear HQfou HBfou c_fou HK3
  have HBfiv := hid (HK4.out.bx (g16, (⟨0, PP, a, b, 9, 3, false, 0#32, 0, 0⟩ : Hf).proves (nonceOf b PP), (Value.slice a_fiv 20 n_fiv)) (List.Mem.tail _ (List.Mem.tail _ (List.Mem.tail _ (List.Mem.tail _ (List.Mem.tail _ (List.Mem.head _)))))))
  have c_fiv := HBfiv.out.row.cell 9 _ rfl
  have HQfiv : Hid (Calls Tryd.prog 21 #[.pointer (some ⟨bk, 0, none⟩), (Value.slice a_fiv 20 n_fiv)] wk4 fun e w' => e = .returned (.tuple #[]) ∧ Kp w w' w.heap.size q bk (⟨0, PP, a, b, 9, 3, false, 0#32, 0, 0⟩ : Hf) (⟨1, PP, b, a, 9, 2, false, (nonceOf a PP), 1, 1000⟩ : Hf) [(g11, (⟨0, PP, a, b, 9, 1, false, 0#32, 0, 0⟩ : Hf).ask, (Value.slice a_ask 0 n_ask)), (g12, (⟨1, PP, b, a, 9, 2, false, (nonceOf a PP), 0, 0⟩ : Hf).answer, (Value.slice a_one 8 n_one)), (g13, (⟨1, PP, b, a, 9, 2, false, (nonceOf a PP), 0, 0⟩ : Hf).answer, (Value.slice a_two 8 n_two)), (g14, (⟨1, PP, b, a, 9, 2, false, (nonceOf a PP), 1, 1000⟩ : Hf).answer, (Value.slice a_thr 8 n_thr)), (g15, (⟨0, PP, a, b, 9, 3, false, 0#32, 0, 0⟩ : Hf).proves (nonceOf b PP), (Value.slice a_fou 20 n_fou)), (g16, (⟨0, PP, a, b, 9, 3, false, 0#32, 0, 0⟩ : Hf).proves (nonceOf b PP), (Value.slice a_fiv 20 n_fiv))] [(Value.slice a_one 8 n_one), (Value.slice a_two 8 n_two), (Value.slice a_thr 8 n_thr), (Value.slice a_fou 20 n_fou), (Value.slice a_fiv 20 n_fiv)]) := HK4.out.keep (y := (g16, (⟨0, PP, a, b, 9, 3, false, 0#32, 0, 0⟩ : Hf).proves (nonceOf b PP), (Value.slice a_fiv 20 n_fiv))) (List.Mem.tail _ (List.Mem.tail _ (List.Mem.tail _ (List.Mem.tail _ (List.Mem.tail _ (List.Mem.head _)))))) (Nat.le_trans (Nat.le_of_eq (prf20 (⟨0, PP, a, b, 9, 3, false, 0#32, 0, 0⟩ : Hf) (nonceOf b PP))) (by decide)) (by show (_ : Nat) ≤ 1000; exact Nat.le_trans (by decide : 4 ≤ 5) (by decide)) (by
      simp only [List.mem_cons, List.not_mem_nil, or_false]
      rintro u (rfl | rfl | rfl | rfl)
      · exact btw_ne HG12.out HG16.out (by have := HR12.out; have := HR13.out; have := HR14.out; have := HR15.out; have := HR16.out; omega)
      · exact btw_ne HG13.out HG16.out (by have := HR12.out; have := HR13.out; have := HR14.out; have := HR15.out; have := HR16.out; omega)
      · exact btw_ne HG14.out HG16.out (by have := HR12.out; have := HR13.out; have := HR14.out; have := HR15.out; have := HR16.out; omega)
      · exact btw_ne HG15.out HG16.out (by have := HR12.out; have := HR13.out; have := HR14.out; have := HR15.out; have := HR16.out; omega))
  go_upto_region 20 with (go_at_call 21; refine HQfiv.out.mono ?_; rintro e wk5 ⟨rfl, hk5⟩; have HK5 := hid hk5; clear hk5)
  clear HQfiv HBfiv c_fiv HK4
  have HB1 := hid (HK5.out.bx (g12, (⟨1, PP, b, a, 9, 2, false, (nonceOf a PP), 0, 0⟩ : Hf).answer, (Value.slice a_one 8 n_one)) (List.Mem.tail _ (List.Mem.head _)))
  have HBl := hid (HK5.out.bx (g16, (⟨0, PP, a, b, 9, 3, false, 0#32, 0, 0⟩ : Hf).proves (nonceOf b PP), (Value.slice a_fiv 20 n_fiv)) (List.Mem.tail _ (List.Mem.tail _ (List.Mem.tail _ (List.Mem.tail _ (List.Mem.tail _ (List.Mem.head _)))))))
  have HCX := hid (bx_copied HB1.out (Nat.le_trans (Nat.le_of_eq (ans8 (⟨1, PP, b, a, 9, 2, false, (nonceOf a PP), 0, 0⟩ : Hf))) (by decide)))
  go_upto_region 21 with (first
    | (show wpList _ _ _ (Oper.mk (some 134) (.load 29 (.tmp 11)) _ _ _ _ :: _) _ _; refine HB1.out.row.wpLoad 29 (.tmp 11) rfl rfl rfl _ Tryd.underlying29 rfl i29 ?_)
    | (go_at_call 19; refine HCX.out.mono ?_; rintro e wc ⟨vc, rfl, ⟨dc, mc, rfl, od, om⟩, hbc⟩; obtain ⟨ad, nd, rfl⟩ := OwnB.nilShape od; obtain ⟨am, nm, em, -, -, -⟩ := om.shape; replace em := em.trans (congrArg (fun n => Value.slice am n nm) (ans8 (⟨1, PP, b, a, 9, 2, false, (nonceOf a PP), 0, 0⟩ : Hf))); subst em; have HMW := hid om; have HBC := hid hbc; clear od om hbc)
    | (show wpList _ _ _ (Oper.mk none (.store 29 (.tmp 22) (.tmp 135)) _ _ _ _ :: _) _ _; refine (Row.new' wc _ frZ 29 _ rfl rfl).wpStore' 29 (.tmp 22) (.tmp 135) (frD ((⟨1, PP, b, a, 9, 2, false, (nonceOf a PP), 0, 0⟩ : Hf).answer).k ((⟨1, PP, b, a, 9, 2, false, (nonceOf a PP), 0, 0⟩ : Hf).answer).p ((⟨1, PP, b, a, 9, 2, false, (nonceOf a PP), 0, 0⟩ : Hf).answer).tok ((⟨1, PP, b, a, 9, 2, false, (nonceOf a PP), 0, 0⟩ : Hf).answer).non (.slice ad 0 nd) (.slice am 8 nm) ((⟨1, PP, b, a, 9, 2, false, (nonceOf a PP), 0, 0⟩ : Hf).answer).bk) rfl rfl rfl rfl rfl (frD_one _ _ _ _ _ _ _ _ _ _ _) i29 ?_; intro wzw HZW))
  have HBW : Hid (Below wc.heap.size wc wzw) := by show Below _ _ _; rw [HZW.out]; exact below_put _ _ _
  have HRW : Hid (Row wzw wc.heap.size (frD ((⟨1, PP, b, a, 9, 2, false, (nonceOf a PP), 0, 0⟩ : Hf).answer).k ((⟨1, PP, b, a, 9, 2, false, (nonceOf a PP), 0, 0⟩ : Hf).answer).p ((⟨1, PP, b, a, 9, 2, false, (nonceOf a PP), 0, 0⟩ : Hf).answer).tok ((⟨1, PP, b, a, 9, 2, false, (nonceOf a PP), 0, 0⟩ : Hf).answer).non (.slice ad 0 nd) (.slice am 8 nm) ((⟨1, PP, b, a, 9, 2, false, (nonceOf a PP), 0, 0⟩ : Hf).answer).bk) 29) := by show Row _ _ _ _; rw [HZW.out]; exact (Row.new' wc _ frZ 29 _ rfl rfl).row _
  have HMW2 : Hid (OwnB wzw wk5.heap.size (.slice am 8 nm) ((⟨1, PP, b, a, 9, 2, false, (nonceOf a PP), 0, 0⟩ : Hf).answer).bs) := OwnB.kept HMW.out HBW.out
  have HKW := hid ((HK5.out.kept HBC.out).kept HBW.out)
  have HLW : Hid (g16 < wk5.heap.size) := HBl.out.row.lt
  have HLQ : Hid (q + 1 ≤ wk5.heap.size) := HK5.out.tw.lt
  have HGD : Hid (Calls Tryd.prog 22 #[.pointer (some ⟨bk, 0, none⟩)] wzw fun e w' => e = .returned (.bool true) ∧ Tw w w.heap.size q (⟨0, PP, a, b, 9, 3, false, 0#32, 0, 0⟩ : Hf) (⟨1, PP, b, a, 9, 2, false, (nonceOf a PP), 1, 1000⟩ : Hf) w' ∧ Tx.Stay 29 wzw w' ∧ Tx.Gone wzw w' [(Value.slice a_one 8 n_one), (Value.slice a_two 8 n_two), (Value.slice a_thr 8 n_thr), (Value.slice a_fou 20 n_fou), (Value.slice a_fiv 20 n_fiv)]) := HKW.out.good (by show 5 ≤ 1000; decide)
  clear HCX HB1 HBl HBC HMW HZW HK5
  go_upto_region 23 with (go_at_call 22; refine HGD.out.mono ?_; rintro e wg ⟨rfl, hgt, hgs, hgg⟩; have HT9 := hid hgt; have HSG := hid hgs; have HGG := hid hgg; clear hgt hgs hgg)
  clear HGD
  have HRA : Hid (Row wg g11 (frC ((⟨0, PP, a, b, 9, 1, false, 0#32, 0, 0⟩ : Hf).ask).k ((⟨0, PP, a, b, 9, 1, false, 0#32, 0, 0⟩ : Hf).ask).p ((⟨0, PP, a, b, 9, 1, false, 0#32, 0, 0⟩ : Hf).ask).tok ((⟨0, PP, a, b, 9, 1, false, 0#32, 0, 0⟩ : Hf).ask).non (Value.slice a_ask 0 n_ask) ((⟨0, PP, a, b, 9, 1, false, 0#32, 0, 0⟩ : Hf).ask).bk) 29) := row_stay (HKW.out.bx (g11, (⟨0, PP, a, b, 9, 1, false, 0#32, 0, 0⟩ : Hf).ask, (Value.slice a_ask 0 n_ask)) (List.Mem.head _)).row HSG.out
  have HRW2 := hid (row_stay HRW.out HSG.out)
  have HMW3 : Hid (OwnB wg wk5.heap.size (.slice am 8 nm) ((⟨1, PP, b, a, 9, 2, false, (nonceOf a PP), 0, 0⟩ : Hf).answer).bs) := ownB_gone HMW2.out HGG.out (by
      intro g e
      have hge := Tx.own_ge HMW2.out e
      simp only [List.mem_cons, List.not_mem_nil, or_false]
      rintro u (rfl | rfl | rfl | rfl | rfl) e2
      · have := HG12.out _ e2; have := HLW.out; have := HR12.out; have := HR13.out; have := HR14.out; have := HR15.out; have := HR16.out; omega
      · have := HG13.out _ e2; have := HLW.out; have := HR12.out; have := HR13.out; have := HR14.out; have := HR15.out; have := HR16.out; omega
      · have := HG14.out _ e2; have := HLW.out; have := HR12.out; have := HR13.out; have := HR14.out; have := HR15.out; have := HR16.out; omega
      · have := HG15.out _ e2; have := HLW.out; have := HR12.out; have := HR13.out; have := HR14.out; have := HR15.out; have := HR16.out; omega
      · have := HG16.out _ e2; have := HLW.out; have := HR12.out; have := HR13.out; have := HR14.out; have := HR15.out; have := HR16.out; omega)
  have HFA := hid (ask_in (w := wg) (F := (⟨0, PP, a, b, 9, 1, false, 0#32, 0, 0⟩ : Hf)) (a := a_ask) (n := n_ask) rfl)
  clear HKW HRW HMW2 HGG HSG HLW
  go_upto_region 24 with (first
    | (show wpList _ _ _ (Oper.mk (some 140) (.load 29 (.tmp 9)) _ _ _ _ :: _) _ _; refine HRA.out.wpLoad 29 (.tmp 9) rfl rfl rfl _ Tryd.underlying29 rfl i29 ?_)
    | (go_at_call 15; refine (hear_join HT9.out.hb HFA.out HP.out rfl rfl rfl (.inr rfl) rfl HAB.out.2 (by have := HT9.out.ge; have := HT9.out.ne; have := H1.out; omega) (HT9.out.k HK.out) (HT9.out.one H1.out) 0).mono ?_; rintro e w6 ⟨v, rfl, ⟨m6, hv, om⟩, hf, ho⟩; have HT6 := hid (HT9.out.onB ho hf); have HM6 := hid om; have HV6 := hid hv; have HO6 := hid ho; clear hv om hf ho)
    | (show wpList _ _ _ (Oper.mk none (.store 29 (.tmp 23) (.tmp 142)) _ _ _ _ :: _) _ _; refine (Row.new' w6 _ frZ 29 _ rfl rfl).wpStore' 29 (.tmp 23) (.tmp 142) (frC ((⟨1, PP, b, a, 9, 2, false, (nonceOf a PP), 0, 0⟩ : Hf).answer).k ((⟨1, PP, b, a, 9, 2, false, (nonceOf a PP), 0, 0⟩ : Hf).answer).p ((⟨1, PP, b, a, 9, 2, false, (nonceOf a PP), 0, 0⟩ : Hf).answer).tok ((⟨1, PP, b, a, 9, 2, false, (nonceOf a PP), 0, 0⟩ : Hf).answer).non m6 ((⟨1, PP, b, a, 9, 2, false, (nonceOf a PP), 0, 0⟩ : Hf).answer).bk) rfl rfl rfl HV6.out rfl (frC_m HM6.out) i29 ?_; intro wz6 HZ6))
  have HB6 : Hid (Below w6.heap.size w6 wz6) := by show Below _ _ _; rw [HZ6.out]; exact below_put _ _ _
  have HX6 : Hid (Row wz6 w6.heap.size (frC ((⟨1, PP, b, a, 9, 2, false, (nonceOf a PP), 0, 0⟩ : Hf).answer).k ((⟨1, PP, b, a, 9, 2, false, (nonceOf a PP), 0, 0⟩ : Hf).answer).p ((⟨1, PP, b, a, 9, 2, false, (nonceOf a PP), 0, 0⟩ : Hf).answer).tok ((⟨1, PP, b, a, 9, 2, false, (nonceOf a PP), 0, 0⟩ : Hf).answer).non m6 ((⟨1, PP, b, a, 9, 2, false, (nonceOf a PP), 0, 0⟩ : Hf).answer).bk) 29) := by show Row _ _ _ _; rw [HZ6.out]; exact (Row.new' w6 _ frZ 29 _ rfl rfl).row _
  have HQW : Hid (Row w6 wc.heap.size _ 29) := HO6.out.row HRW2.out (fun e => by have := HRW2.out.at_; rw [e] at this; have h2 := HT9.out.hb.at_; rw [this] at h2; simp at h2)
  have HQ2 := hid (HQW.out.kept HB6.out HQW.out.lt)
  have HM7 : Hid (OwnB wz6 (q + 1) (.slice am 8 nm) ((⟨1, PP, b, a, 9, 2, false, (nonceOf a PP), 0, 0⟩ : Hf).answer).bs) := (OwnB.only (HMW3.out.less HLQ.out) HO6.out (Nat.lt_succ_self q)).kept HB6.out
  have HM8 := hid (HM6.out.kept HB6.out)
  have HS4 := hid (same_yes (bs := ((⟨1, PP, b, a, 9, 2, false, (nonceOf a PP), 0, 0⟩ : Hf).answer).bs) HM8.out HM7.out)
  obtain ⟨a6, n6, e6, -, -, -⟩ := HM6.out.shape
  replace e6 : m6 = .slice a6 8 n6 := e6.trans (congrArg (fun n => Value.slice a6 n n6) (ans8 _))
  have HE := hid (HT6.out.kept HB6.out).bel
  have d6 := HX6.out.cell 9 _ rfl
  have dw := HQ2.out.cell 9 _ rfl
  clear HX6 HQW HQ2 HM7 HM8 HT9 HT6 HB6 HZ6 HM6 HV6 HO6 HRA HRW2 HMW3 HFA
  subst e6
  go_wp2_with (go_at_call 20; refine HS4.out.mono ?_; rintro e wq4 ⟨rfl, hq⟩; subst hq)
  go_ret
  exact ⟨rfl, HE.out⟩
end Go.Proofs.YtjpllcliehgnfaaDoor
namespace Go.Proofs.YtjpllcliehgnfaaDoor
open Go.RowKit
set_option maxRecDepth 100000
theorem own_any {w : World} (path : Int) (a b : Nat) (ha : a < 18446744073709551616) (hb : b < 18446744073709551616) (hK : KTab w) (h1 : 1 ≤ w.heap.size) :
    Calls Tryd.prog 7 #[.int .i64 path, .int .u64 (a : Int), .int .u64 (b : Int)] w fun e w' => e = .returned (.bool true) ∧ Below w.heap.size w w' := by
  by_cases hp : path = 0
  · subst hp
    exact own_zero a b ha hb hK h1
  · exact own_some path hp a b ha hb hK h1
end Go.Proofs.YtjpllcliehgnfaaDoor
