import Derived.Test.YtfhjiggaacgncaaDoorCr0
namespace Go.Proofs.YtfhjiggaacgncaaDoor
open Go.RowKit Go.Maps Go.Sort
set_option maxRecDepth 100000

abbrev Rcs := List (BitVec 8 × List (BitVec 8))
/-- The book beside the disk and its log (M), and boxes (X). -/
structure Cm (w0 w : World) (M : Nat → Prop) (F : Pb) (b : Nat) (B : Rcs) (X : List (Nat × List Value)) : Prop where
  pb : PbAt w w0.heap.size F
  hb : F.b = b
  hL : F.L = B
  ge : ∀ x, M x → w0.heap.size ≤ x
  lt : ∀ x, M x → x < w.heap.size
  ap : ∀ x, M x → ¬ F.Mem x
  xs : ∀ y ∈ X, Row w y.1 y.2 48 ∧ ¬ M y.1 ∧ ¬ F.Mem y.1
  be : Below w0.heap.size w0 w
/-- The same with a kind more. -/
structure Ck (w0 w : World) (M : Nat → Prop) (F : Pb) (r : BitVec 8) (kv : Value) (b : Nat) (B : Rcs) (X : List (Nat × List Value)) : Prop where
  pb : PbK w w0.heap.size F r kv
  hb : F.b = b
  hL : F.L = B
  ge : ∀ x, M x → w0.heap.size ≤ x
  lt : ∀ x, M x → x < w.heap.size
  ap : ∀ x, M x → ¬ F.MemK kv x
  xs : ∀ y ∈ X, Row w y.1 y.2 48 ∧ ¬ M y.1 ∧ ¬ F.MemK kv y.1
  be : Below w0.heap.size w0 w
def CrS (w0 w : World) (p q n b : Nat) (P B : Rcs) (s : Nat) (X : List (Nat × List Value)) : Prop := ∃ M F, St w M p q n P s ∧ Cm w0 w M F b B X
def CrK (w0 w : World) (p q n b : Nat) (P B : Rcs) (s : Nat) (r : BitVec 8) (X : List (Nat × List Value)) : Prop := ∃ M F kv, St w M p q n P s ∧ Ck w0 w M F r kv b B X
def CrD (w0 w : World) (p q n b : Nat) (P B : Rcs) (k : Nat) (X : List (Nat × List Value)) : Prop := ∃ M F, Dead w M p q n P k ∧ (∀ x ∈ P, Fine x) ∧ (enc 0 P).length ≤ n ∧ Cm w0 w M F b B X
section
variable {w0 w w' : World} {p q n b s k : Nat} {P B : Rcs} {X : List (Nat × List Value)} {M M' : Nat → Prop} {F : Pb}
theorem St.tight (h : St w M p q n P s) : ∃ M', St w M' p q n P s ∧ (∀ x, M' x → M x) ∧ ∀ x, M' x → x < w.heap.size := by
  obtain ⟨D, G, hj, h1, h2, h3, h4, h5, h6, h7⟩ := h
  exact ⟨JMem q D G, ⟨D, G, hj, h1, h2, h3, h4, h5, h6, fun x e => e⟩, h7, fun x e => hj.lt e⟩
theorem Dead.tight (h : Dead w M p q n P k) : ∃ M', Dead w M' p q n P k ∧ (∀ x, M' x → M x) ∧ ∀ x, M' x → x < w.heap.size := by
  obtain ⟨D, G, hj, h1, h2, h3, h4, h5, h6, h7, h8, h9⟩ := h
  exact ⟨JMem q D G, ⟨D, G, hj, h1, h2, h3, h4, h5, h6, h7, h8, fun x e => e⟩, h9, fun x e => hj.lt e⟩
theorem Cm.turn (h : Cm w0 w M F b B X) (ht : Tn w w' M M') (hl : ∀ x, M' x → x < w'.heap.size) : Cm w0 w' M' F b B X := by
  have hs := h.be.size
  refine ⟨h.pb.fr ht.fr (fun k e e' => h.ap k e' e), h.hb, h.hL, fun x e => ?_, hl, fun x e => ?_, fun y hy => ?_, h.be.trans (ht.fr.below h.ge hs)⟩
  · rcases ht.new x e with e' | e'
    · exact h.ge x e'
    · omega
  · rcases ht.new x e with e' | e'
    · exact h.ap x e'
    · intro hm
      have := h.pb.lt hm
      omega
  · obtain ⟨h1, h2, h3⟩ := h.xs y hy
    refine ⟨ht.fr.row h1 h2, fun e => ?_, h3⟩
    rcases ht.new _ e with e' | e'
    · exact h2 e'
    · have := h1.lt
      omega
theorem Tn.less {M2 : Nat → Prop} (h : Tn w w' M M') (hs : ∀ x, M2 x → M' x) : Tn w w' M M2 := ⟨h.fr, fun x e => h.new x (hs x e)⟩
theorem Cm.kept (h : Cm w0 w M F b B X) (hb : Below w.heap.size w w') : Cm w0 w' M F b B X := h.turn (Tn.below hb) (fun x e => Nat.lt_of_lt_of_le (h.lt x e) hb.size)
theorem CrS.kept (h : CrS w0 w p q n b P B s X) (hb : Below w.heap.size w w') : CrS w0 w' p q n b P B s X := by
  obtain ⟨M, F, h1, h2⟩ := h
  exact ⟨M, F, h1.kept hb, h2.kept hb⟩
theorem CrD.kept (h : CrD w0 w p q n b P B k X) (hb : Below w.heap.size w w') : CrD w0 w' p q n b P B k X := by
  obtain ⟨M, F, h1, h2, h3, h4⟩ := h
  exact ⟨M, F, h1.kept hb, h2, h3, h4.kept hb⟩
theorem CrS.be (h : CrS w0 w p q n b P B s X) : Below w0.heap.size w0 w := by
  obtain ⟨M, F, h1, h2⟩ := h
  exact h2.be
theorem CrD.be (h : CrD w0 w p q n b P B k X) : Below w0.heap.size w0 w := by
  obtain ⟨M, F, _, _, _, h2⟩ := h
  exact h2.be
theorem CrS.few (h : CrS w0 w p q n b P B s X) : P.length ≤ n ∧ s ≤ P.length := by
  obtain ⟨M, F, ⟨D, G, hj, h1, h2, _⟩, _⟩ := h
  exact ⟨Nat.le_trans (p_len P) h2.fit, h2.le⟩
theorem CrS.row (h : CrS w0 w p q n b P B s X) {y : Nat × List Value} (hy : y ∈ X) : Row w y.1 y.2 48 := by
  obtain ⟨M, F, h1, h2⟩ := h
  exact (h2.xs y hy).1
theorem CrS.drop (h : CrS w0 w p q n b P B s X) : CrS w0 w p q n b P B s [] := by
  obtain ⟨M, F, h1, h2⟩ := h
  exact ⟨M, F, h1, h2.pb, h2.hb, h2.hL, h2.ge, h2.lt, h2.ap, fun y hy => (by cases hy), h2.be⟩
theorem CrS.box (h : CrS w0 w p q n b P B s []) (cs : List Value) : CrS w0 (w.alloc (.cells cs.toArray 48)) p q n b P B s [(w.heap.size, cs)] := by
  obtain ⟨M, F, h1, h2⟩ := h
  have hb := below_new w (.cells cs.toArray 48)
  have h3 := h2.kept hb
  refine ⟨M, F, h1.kept hb, h3.pb, h3.hb, h3.hL, h3.ge, h3.lt, h3.ap, fun y hy => ?_, h3.be⟩
  obtain rfl : y = (w.heap.size, cs) := by simpa using hy
  refine ⟨Row.new w cs 48, fun e => ?_, fun e => ?_⟩
  · have := h2.lt _ e
    exact Nat.lt_irrefl _ this
  · have := h2.pb.lt e
    exact Nat.lt_irrefl _ this
theorem CrS.cells (h : CrS w0 w p q n b P B s X) : ∃ ka kc ba bc, Row w b [.slice ka B.length kc, .slice ba B.length bc] 46 ∧ B.length ≤ kc ∧ kc ≤ maxLen ∧ B.length ≤ bc ∧ bc ≤ maxLen := by
  obtain ⟨M, F, h1, h2⟩ := h
  obtain ⟨ka, kc, ek, k1, k2, _⟩ := own_len h2.pb.kinds
  obtain ⟨ba, bc, eb, b1, b2, _⟩ := own_len h2.pb.bodies
  have hl : F.V.length = B.length := by rw [← h2.hL]; simp [Pb.L]
  rw [hl] at ek eb k1 b1
  have hr := h2.pb.row
  rw [h2.hb, ek, eb] at hr
  exact ⟨ka, kc, ba, bc, hr, k1, k2, b1, b2⟩
theorem cr_len (h : CrS w0 w p q n b P B s X) : Calls Tryd.prog 15 #[pt q 0] w fun e w' => e = .returned (.int .u64 (P.length : Nat)) ∧ w' = w := by
  obtain ⟨M, F, h1, h2⟩ := h
  exact st_len h1
theorem cr_room (h : CrS w0 w p q n b P B s X) (hn : n ≤ 16777216) : Calls Tryd.prog 18 #[pt q 0] w fun e w' => e = .returned (.int .i64 (min ((n : Int) - (enc 0 P).length - 18) 65536)) ∧ Below w.heap.size w w' := by
  obtain ⟨M, F, h1, h2⟩ := h
  exact st_room h1 hn
theorem cr_records (h : CrS w0 w p q n b P B s X) (hn : n ≤ 16777216) : Calls Tryd.prog 17 #[pt q 0] w fun e w' => ∃ a c, e = .returned (.slice a P.length c) ∧ RecV w' w.heap.size (.slice a P.length c) P ∧ Below w.heap.size w w' := by
  obtain ⟨M, F, h1, h2⟩ := h
  refine (st_records h1 hn).mono ?_
  rintro e w' ⟨v, rfl, hR, hb⟩
  obtain ⟨R, hRL, hO, hB⟩ := hR
  obtain ⟨a, c, ev, -⟩ := own_len hO
  have hl : R.length = P.length := by rw [← hRL]; simp
  rw [hl] at ev
  subst ev
  exact ⟨a, c, rfl, ⟨R, hRL, hO, hB⟩, hb⟩
theorem cr_pending (h : CrS w0 w p q n b P B s X) (hs : s = P.length) : Calls Tryd.prog 11 #[pt p 0] w fun e w' => e = .returned (.int .i64 0) ∧ w' = w := by
  obtain ⟨M, F, h1, h2⟩ := h
  exact st_pending h1 hs
theorem cr_is (h : CrS w0 w p q n b P B s X) (hl : B.length ≤ 1048576) {C : Nat} {v : Value} {L : Rcs} (hR : RecV w C v L) (hp : L = B.take L.length) (hle : L.length ≤ B.length) : Calls Tryd.prog 24 #[pt b 0, v] w fun e w' => e = .returned (.bool true) ∧ Below w.heap.size w w' := by
  obtain ⟨M, F, h1, h2⟩ := h
  have hv : F.V.length = B.length := by rw [← h2.hL]; simp [Pb.L]
  have := is_any h2.pb hR (by omega) (by rw [h2.hL]; exact hp) (by rw [h2.hL]; exact hle)
  rw [h2.hb] at this
  exact this
theorem cr_append_no (h : CrS w0 w p q n b P B s X) (hn : n ≤ 16777216) {k : BitVec 8} {a : Option Addr} {m cp : Nat} (hE : ¬ mayE n P k m = 0) :
    Calls Tryd.prog 19 #[pt q 0, .int .u8 (ub k), .slice a m cp] w fun e w' => e = .returned (.tuple #[.int .u64 0, .int .i64 (mayE n P k m)]) ∧ Below w.heap.size w w' := by
  obtain ⟨M, F, h1, h2⟩ := h
  exact st_append_no h1 hn hE
theorem cr_append_ok (h : CrS w0 w p q n b P B s X) (h1n : 1 ≤ n) (hn : n ≤ 16777216) {k : BitVec 8} {a : Option Addr} {m cp : Nat} {bs : List (BitVec 8)} (hB : BytesAt w a bs) (hm : bs.length = m) (hT : CrcTab w0) (hE : mayE n P k m = 0) :
    Calls Tryd.prog 19 #[pt q 0, .int .u8 (ub k), .slice a m cp] w fun e w' => e = .returned (.tuple #[.int .u64 (P.length : Nat), .int .i64 0]) ∧ CrS w0 w' p q n b (P ++ [(k, bs)]) B s X := by
  obtain ⟨M, F, h1, h2⟩ := h
  refine (st_append_ok h1 h1n hn hB hm (hT.kept h2.be) hE).mono ?_
  rintro e w' ⟨rfl, M1, h3, h4⟩
  obtain ⟨M2, h5, h6, h7⟩ := h3.tight
  exact ⟨rfl, M2, F, h5, h2.turn (h4.less h6) h7⟩
theorem cr_sync (h : CrS w0 w p q n b P B s X) (h1n : 1 ≤ n) (hn : n ≤ 16777216) : Calls Tryd.prog 22 #[pt q 0] w fun e w' => e = .returned (.int .i64 0) ∧ CrS w0 w' p q n b P B P.length X := by
  obtain ⟨M, F, h1, h2⟩ := h
  refine (st_sync h1 h1n hn).mono ?_
  rintro e w' ⟨rfl, M1, h3, h4⟩
  obtain ⟨M2, h5, h6, h7⟩ := h3.tight
  exact ⟨rfl, M2, F, h5, h2.turn (h4.less h6) h7⟩
theorem cr_dsync (h : CrS w0 w p q n b P B s X) (h1n : 1 ≤ n) (hn : n ≤ 16777216) : Calls Tryd.prog 21 #[pt p 0] w fun e w' => e = .returned (.tuple #[]) ∧ CrS w0 w' p q n b P B P.length X := by
  obtain ⟨M, F, h1, h2⟩ := h
  refine (st_dsync h1 h1n hn).mono ?_
  rintro e w' ⟨rfl, M1, h3, h4⟩
  obtain ⟨M2, h5, h6, h7⟩ := h3.tight
  exact ⟨rfl, M2, F, h5, h2.turn (h4.less h6) h7⟩
theorem cr_crash (h : CrS w0 w p q n b P B s X) (h1n : 1 ≤ n) (hn : n ≤ 16777216) (keep torn : Int) : Calls Tryd.prog 23 #[pt p 0, .int .i64 keep, .int .i64 torn] w fun e w' => e = .returned (.tuple #[]) ∧ ∃ k, s ≤ k ∧ k ≤ P.length ∧ CrD w0 w' p q n b P B k X := by
  obtain ⟨M, F, h1, h2⟩ := h
  have hF : (∀ x ∈ P, Fine x) ∧ (enc 0 P).length ≤ n := by
    obtain ⟨D, G, hj, h1, h2, _⟩ := h1
    exact ⟨h2.fine, h2.fit⟩
  refine (st_crash h1 h1n hn keep torn).mono ?_
  rintro e w' ⟨rfl, k, hk1, hk2, h3, h4⟩
  obtain ⟨M2, h5, h6, h7⟩ := h3.tight
  exact ⟨rfl, k, hk1, hk2, M2, F, h5, hF.1, hF.2, h2.turn (h4.less h6) h7⟩
theorem crd_append (h : CrD w0 w p q n b P B k X) (hn : n ≤ 16777216) {kd : BitVec 8} {a : Option Addr} {m cp : Nat} :
    Calls Tryd.prog 19 #[pt q 0, .int .u8 (ub kd), .slice a m cp] w fun e w' => e = .returned (.tuple #[.int .u64 0, .int .i64 215]) ∧ CrD w0 w' p q n b P B k X := by
  have h0 := h
  obtain ⟨M, F, h1, h2⟩ := h
  refine (dead_append h1 hn).mono ?_
  rintro e w' ⟨rfl, hb⟩
  exact ⟨rfl, h0.kept hb⟩
theorem crd_open (h : CrD w0 w p q n b P B k X) (h1n : 1 ≤ n) (hn : n ≤ 16777216) (hT : CrcTab w0) : Calls Tryd.prog 9 #[pt p 0] w fun e w' => ∃ q', e = .returned (.tuple #[pt q' 0, .int .i64 0]) ∧ CrS w0 w' p q' n b (P.take k) B (P.take k).length X := by
  obtain ⟨M, F, h1, h2, h3, h4⟩ := h
  refine (dead_open h1 h2 h3 h1n hn (hT.kept h4.be)).mono ?_
  rintro e w' ⟨q', M', rfl, h5, h6⟩
  obtain ⟨M2, h7, h8, h9⟩ := h5.tight
  exact ⟨q', rfl, M2, F, h7, h4.turn (h6.less h8) h9⟩
theorem cr_open (h : CrS w0 w p q n b P B s X) (h1n : 1 ≤ n) (hn : n ≤ 16777216) (hT : CrcTab w0) : Calls Tryd.prog 9 #[pt p 0] w fun e w' => ∃ q', e = .returned (.tuple #[pt q' 0, .int .i64 0]) ∧ CrS w0 w' p q' n b P B P.length X := by
  obtain ⟨M, F, h1, h4⟩ := h
  refine (st_open h1 h1n hn (hT.kept h4.be)).mono ?_
  rintro e w' ⟨q', M', rfl, h5, h6⟩
  obtain ⟨M2, h7, h8, h9⟩ := h5.tight
  exact ⟨q', rfl, M2, F, h7, h4.turn (h6.less h8) h9⟩
/-- The kind of a record that was added. -/
theorem cr_kinds (h : CrS w0 w p q n b P B s X) (hl : B.length ≤ 1048576) (r : BitVec 8) : ∃ ka kc bv ka' kc' w2, w.cell? ⟨b, 0, none⟩ = some (.slice ka B.length kc) ∧ (Builtin.append_ #[30, 30] 30 #[.slice ka B.length kc, .slice (some ⟨w.heap.size, 0, none⟩) 1 1]).run Tryd.prog (w.alloc (.cells #[.int .u8 (ub r)] 5)) = .ok (.slice ka' (B.length + 1) kc') w2 ∧ Row w2 b [.slice ka B.length kc, bv] 46 ∧ CrK w0 (w2.setCell ⟨b, 0, none⟩ (.slice ka' (B.length + 1) kc')) p q n b P B s r X := by
  obtain ⟨M, F, h1, h2⟩ := h
  obtain ⟨ka, kc, ek, k1, k2, _⟩ := own_len h2.pb.kinds
  have hv : F.V.length = B.length := by rw [← h2.hL]; simp [Pb.L]
  have hb1 := below_new w (.cells #[.int .u8 (ub r)] 5)
  have hk := own_below h2.pb.kinds hb1
  have hkl : (F.V.map (·.2.1)).length = F.V.length := by simp
  rw [← hkl] at hk
  obtain ⟨v', w2, hr, ho, hF2, hn⟩ := push5 (r := r) (bx := w.heap.size) hk (Nat.le_trans h2.be.size hb1.size) (by rw [hkl]; omega) ((Row.new w [.int .u8 (ub r)] 5).cell 0 _ rfl) 30
  rw [hkl] at ho
  obtain ⟨hP, hF3, hM, hR2⟩ := pb_kinds h2.pb hb1 ho hF2 hn
  obtain ⟨ka', kc', ev, -⟩ := own_len ho
  subst ev
  rw [ek] at hr hR2
  have c0 := h2.pb.row.cell 0 _ rfl
  rw [ek, h2.hb] at c0
  rw [h2.hb] at hR2 hP hF3
  rw [hv] at c0 hr hR2 hP hF3
  refine ⟨ka, kc, F.bv, ka', kc', w2, c0, hr, hR2, M, F, .slice ka' (B.length + 1) kc', h1.fr hF3 ?_, ?_⟩
  · rintro x hx (e | e)
    · exact h2.ap x hx (.inl (e.trans h2.hb.symm))
    · exact h2.ap x hx (.inr (.inl e))
  · refine ⟨hP, h2.hb, h2.hL, h2.ge, fun x hx => Nat.lt_of_lt_of_le (h2.lt x hx) hF3.size, fun x hx e => ?_, fun y hy => ?_, h2.be.trans (hF3.below ?_ h2.be.size)⟩
    · rw [← hv] at e
      rcases hM x e with e' | e'
      · exact h2.ap x hx e'
      · have := h2.lt x hx
        omega
    · obtain ⟨x1, x2, x3⟩ := h2.xs y hy
      refine ⟨hF3.row x1 ?_, x2, fun e => ?_⟩
      · rintro (e | e)
        · exact x3 (.inl (e.trans h2.hb.symm))
        · exact x3 (.inr (.inl e))
      · rw [← hv] at e
        rcases hM _ e with e' | e'
        · exact x3 e'
        · have := x1.lt
          omega
    · rintro x (e | e)
      · exact h2.pb.ge (.inl (e.trans h2.hb.symm))
      · exact h2.pb.ge (.inr (.inl e))
theorem CrK.kept {r : BitVec 8} (h : CrK w0 w p q n b P B s r X) (hb : Below w.heap.size w w') : CrK w0 w' p q n b P B s r X := by
  obtain ⟨M, F, kv, h1, h2⟩ := h
  exact ⟨M, F, kv, h1.kept hb, h2.pb.kept hb, h2.hb, h2.hL, h2.ge, fun x hx => Nat.lt_of_lt_of_le (h2.lt x hx) hb.size, h2.ap, fun y hy => ⟨(h2.xs y hy).1.kept hb (h2.xs y hy).1.lt, (h2.xs y hy).2⟩, h2.be.trans (hb.mono h2.be.size)⟩
theorem CrK.row {r : BitVec 8} (h : CrK w0 w p q n b P B s r X) {y : Nat × List Value} (hy : y ∈ X) : Row w y.1 y.2 48 := by
  obtain ⟨M, F, kv, h1, h2⟩ := h
  exact (h2.xs y hy).1
theorem CrK.be {r : BitVec 8} (h : CrK w0 w p q n b P B s r X) : Below w0.heap.size w0 w := by
  obtain ⟨M, F, kv, h1, h2⟩ := h
  exact h2.be
/-- And its body. -/
theorem cr_bodies {r : BitVec 8} (h : CrK w0 w p q n b P B s r X) (hl : B.length ≤ 1048576) : ∃ ba bc kv, w.cell? ⟨b, 1, none⟩ = some (.slice ba B.length bc) ∧ ∀ w4 v bs, Below w.heap.size w w4 → OwnBy w4 w.heap.size v bs → ∃ ba' bc' w6, (Builtin.append_ #[44, 44] 44 #[.slice ba B.length bc, .slice (some ⟨w4.heap.size, 0, none⟩) 1 1]).run Tryd.prog (w4.alloc (.cells #[v] 30)) = .ok (.slice ba' (B.length + 1) bc') w6 ∧ Row w6 b [kv, .slice ba B.length bc] 46 ∧ (∀ y ∈ X, Row w6 y.1 y.2 48) ∧ CrS w0 (w6.setCell ⟨b, 1, none⟩ (.slice ba' (B.length + 1) bc')) p q n b P (B ++ [(r, bs)]) s X := by
  obtain ⟨M, F, kv, h1, h2⟩ := h
  obtain ⟨ba, bc, eb, k1, k2, _⟩ := own_len h2.pb.bodies
  have hv : F.V.length = B.length := by rw [← h2.hL]; simp [Pb.L]
  have c1 := h2.pb.row.cell 1 _ rfl
  rw [eb, h2.hb, hv] at c1
  refine ⟨ba, bc, kv, c1, fun w4 v bs hb4 hov => ?_⟩
  have hb5 := below_two hb4 (below_new w4 (.cells #[v] 30)) (Nat.le_refl _)
  have hk := own_below h2.pb.bodies hb5
  have hkl : (F.V.map (·.1)).length = F.V.length := by simp
  rw [← hkl] at hk
  have hone : v.oneCell' = true := by
    obtain ⟨a, c, e, -⟩ := own_len hov
    rw [e]; rfl
  obtain ⟨v', w6, hr, ho, hF2, hn⟩ := push30 (x := v) (bx := w4.heap.size) hk (Nat.le_trans h2.be.size hb5.size) (by rw [hkl]; omega) ((Row.new w4 [v] 30).cell 0 _ rfl) hone 44
  rw [hkl] at ho
  obtain ⟨hP, hF3, hM, hR2⟩ := pb_bodies h2.pb hb5 (own_below hov (below_new w4 (.cells #[v] 30))) ho hF2 hn
  obtain ⟨ba', bc', ev, -⟩ := own_len ho
  subst ev
  rw [eb] at hr hR2
  rw [h2.hb] at hR2 hP hF3
  rw [hv] at hr hR2 hP hF3
  refine ⟨ba', bc', w6, hr, hR2, fun y hy => hF2.row ((h2.xs y hy).1.kept hb5 (h2.xs y hy).1.lt) (fun e => (h2.xs y hy).2.2 (.inr (.inr (.inl e)))), M, ⟨F.b, kv, .slice ba' (B.length + 1) bc', F.V ++ [(v, (r, bs))]⟩, h1.fr hF3 ?_, ?_⟩
  · rintro x hx (e | e)
    · exact h2.ap x hx (.inl (e.trans h2.hb.symm))
    · exact h2.ap x hx (.inr (.inr (.inl e)))
  · rw [hv, h2.hb] at hM
    rw [h2.hb]
    refine ⟨hP, rfl, ?_, h2.ge, fun x hx => Nat.lt_of_lt_of_le (h2.lt x hx) hF3.size, fun x hx e => ?_, fun y hy => ?_, h2.be.trans (hF3.below ?_ h2.be.size)⟩
    · show (F.V ++ [(v, (r, bs))]).map (·.2) = _
      rw [List.map_append, ← h2.hL]
      rfl
    · rcases hM x e with e' | e'
      · exact h2.ap x hx e'
      · have := h2.lt x hx
        omega
    · obtain ⟨x1, x2, x3⟩ := h2.xs y hy
      refine ⟨hF3.row x1 ?_, x2, fun e => ?_⟩
      · rintro (e | e)
        · exact x3 (.inl (e.trans h2.hb.symm))
        · exact x3 (.inr (.inr (.inl e)))
      · rcases hM _ e with e' | e'
        · exact x3 e'
        · have := x1.lt
          omega
    · rintro x (e | e)
      · rw [e, ← h2.hb]; exact h2.pb.hb
      · exact own_ge h2.pb.bodies e
/-- The book cut back. -/
theorem cr_cut (h : CrS w0 w p q n b P B s X) {k : Nat} (hk : k ≤ B.length) (hP : B.take k = P) {ka ba : Option Addr} {kc bc : Nat} (hr : Row w b [.slice ka B.length kc, .slice ba B.length bc] 46) : CrS w0 ((w.setCell ⟨b, 0, none⟩ (.slice ka k kc)).setCell ⟨b, 1, none⟩ (.slice ba k bc)) p q n b P P s X := by
  obtain ⟨M, F, h1, h2⟩ := h
  have hv : F.V.length = B.length := by rw [← h2.hL]; simp [Pb.L]
  have hr0 := h2.pb.row
  rw [h2.hb] at hr0
  have e0 := (hr0.cell 0 _ rfl).symm.trans (hr.cell 0 _ rfl)
  have e1 := (hr0.cell 1 _ rfl).symm.trans (hr.cell 1 _ rfl)
  simp at e0 e1
  obtain ⟨hPb, hF, hL, hM⟩ := pb_cut h2.pb (k := k) (by omega) (ka := ka) (ba := ba) (kc := kc) (bc := bc) (by rw [hv]; exact e0) (by rw [hv]; exact e1)
  rw [h2.hb] at hPb hF
  refine ⟨M, F.cut k (.slice ka k kc) (.slice ba k bc), h1.fr hF (fun x hx e => h2.ap x hx (.inl (e.trans h2.hb.symm))), hPb, h2.hb, ?_, h2.ge, fun x hx => Nat.lt_of_lt_of_le (h2.lt x hx) hF.size, fun x hx e => h2.ap x hx (hM x e), fun y hy => ?_, h2.be.trans (hF.below (fun x e => h2.pb.ge (.inl (e.trans h2.hb.symm))) h2.be.size)⟩
  · rw [hL, h2.hL, hP]
  · obtain ⟨x1, x2, x3⟩ := h2.xs y hy
    exact ⟨hF.row x1 (fun e => x3 (.inl (e.trans h2.hb.symm))), x2, fun e => x3 (hM _ e)⟩
/-- The beginning. -/
theorem cr_new {q n : Nat} (hbe : Below w0.heap.size w0 w) (h : St w M p q n [] 0) (hge : ∀ x, M x → w0.heap.size ≤ x) : CrS w0 (w.alloc (.cells #[.slice none 0 0, .slice none 0 0] 46)) p q n w.heap.size [] [] 0 [] := by
  obtain ⟨M2, h1, h2, h3⟩ := h.tight
  have hb := below_new w (.cells #[.slice none 0 0, .slice none 0 0] 46)
  have hs := hbe.size
  refine ⟨M2, ⟨w.heap.size, .slice none 0 0, .slice none 0 0, []⟩, h1.kept hb, ⟨Row.new w [.slice none 0 0, .slice none 0 0] 46, hs, ⟨rfl, .inl ⟨rfl, rfl⟩⟩, ⟨rfl, .inl ⟨rfl, rfl⟩⟩, fun x hx => (by cases hx), fun x hx => (by cases hx)⟩, rfl, rfl, fun x hx => hge x (h2 x hx), fun x hx => Nat.lt_of_lt_of_le (h3 x hx) hb.size, ?_, fun y hy => (by cases hy), hbe.trans (hb.mono hs)⟩
  rintro x hx (e | e | e | ⟨y, hy, _⟩)
  · have := h3 x hx
    subst e
    exact Nat.lt_irrefl _ this
  · simp [Value.ownBlock] at e
  · simp [Value.ownBlock] at e
  · cases hy
end
end Go.Proofs.YtfhjiggaacgncaaDoor
