import Derived.Test.YtfhjiggaacgncaaDoorJg2
import Derived.Test.YtfhjiggaacgncaaDoorJr1
namespace Go.Proofs.YtfhjiggaacgncaaDoor
open Go.RowKit Go.Maps Go.Sort
set_option maxRecDepth 100000

/-- A disk and a log on it, apart. -/
structure JL (w : World) (q : Nat) (D : Dk) (G : Lg) : Prop where
  dk : DkAt w G.p D
  lg : LgAt w q G
  ap : ∀ k, G.Mem q k → ¬ D.Mem G.p k
def JMem (q : Nat) (D : Dk) (G : Lg) (k : Nat) : Prop := D.Mem G.p k ∨ G.Mem q k
theorem JL.lt {w : World} {q : Nat} {D : Dk} {G : Lg} (h : JL w q D G) {k : Nat} (hk : JMem q D G k) : k < w.heap.size := hk.elim (fun e => h.dk.lt e) (fun e => h.lg.lt e)
theorem JL.fr {w w' : World} {q : Nat} {D : Dk} {G : Lg} {X : Nat → Prop} (h : JL w q D G) (hf : Fr X w w') (hX : ∀ k, JMem q D G k → ¬ X k) : JL w' q D G := ⟨h.dk.fr hf (fun k e => hX k (.inl e)), h.lg.fr hf (fun k e => hX k (.inr e)), h.ap⟩
theorem JL.kept {w w' : World} {q : Nat} {D : Dk} {G : Lg} (h : JL w q D G) (hb : Below w.heap.size w w') : JL w' q D G := h.fr (X := fun _ => False) (Fr.of_below hb (Nat.le_refl _)) (fun _ _ e => e)
/-- What an Append leaves. -/
structure Apd (w w' : World) (q : Nat) (D : Dk) (G : Lg) (k : BitVec 8) (b : List (BitVec 8)) (D' : Dk) (G' : Lg) : Prop where
  at_ : JL w' q D' G'
  fr : Fr (JMem q D G) w w'
  new : ∀ x, JMem q D' G' x → JMem q D G x ∨ w.heap.size ≤ x
  dS : D'.S = D.S
  dN : D'.N = lay D.N G.end_ (recL G.R.length k b)
  dW : ∃ v, D'.W = D.W ++ [⟨G.end_, v, recL G.R.length k b⟩]
  dl : D'.lives = D.lives
  gR : ∃ v, G'.R = G.R ++ [⟨k, v, b⟩]
  ge : G'.end_ = G.end_ + (18 + b.length)
  gp : G'.p = G.p
  gb : G'.born = G.born
  gs : G'.size = G.size
theorem append_no {w : World} {q : Nat} {D : Dk} {G : Lg} (h : JL w q D G) (hs : G.size ≤ 16777216) (he : G.end_ ≤ G.size) {k : BitVec 8} {a : Option Addr} {n cp : Nat} {E : Int} (hE : G.takesE D.lives k n = E) (hE0 : ¬ E = 0) :
    Calls Tryd.prog 19 #[pt q 0, .int .u8 (ub k), .slice a n cp] w fun e w' => e = .returned (.tuple #[.int .u64 0, .int .i64 E]) ∧ Below w.heap.size w w' := by
  have hT := takes_any h.lg h.dk hs he k n
  rw [hE] at hT
  have HT := hid hT
  clear hT h hs he hE
  go_enter Tryd.func19, Tryd.ntmps19
  go_wp2_with (go_at_call 37; refine HT.out.mono ?_; rintro e w1 ⟨rfl, hb⟩; have HB := hid hb; clear hb)
  go_ret2
  exact ⟨rfl, HB.out⟩
theorem apd_of {w w3 w5 w6 : World} {q : Nat} {D : Dk} {G : Lg} {k : BitVec 8} {b : List (BitVec 8)} {bv v wv' rv' : Value} (h : JL w q D G) (hb3 : Below w.heap.size w w3) (hbv : OwnBy w3 w.heap.size bv b) (hvb : ∀ g, v.ownBlock = some g → w.heap.size ≤ g)
    (hD : DkAt w5 G.p (D.put G.end_ v (recL G.R.length k b) wv')) (hF5 : Fr (D.PutM G.p) w3 w5) (hw5 : ∀ g, wv'.ownBlock = some g → D.wv.ownBlock = some g ∨ w3.heap.size ≤ g) (hbv2 : ∀ g, bv.ownBlock = some g → v.ownBlock ≠ some g ∧ wv'.ownBlock ≠ some g)
    (hG : LgAt w6 q (G.add ⟨k, bv, b⟩ rv')) (hF6 : Fr (G.AddM q) w5 w6) (hw6 : ∀ g, rv'.ownBlock = some g → G.rv.ownBlock = some g ∨ w5.heap.size ≤ g) :
    Apd w w6 q D G k b (D.put G.end_ v (recL G.R.length k b) wv') (G.add ⟨k, bv, b⟩ rv') := by
  have hPM : ∀ x, D.PutM G.p x → D.Mem G.p x := by
    rintro x (rfl | rfl | e)
    · exact .inl rfl
    · exact .inr (.inr (.inl rfl))
    · exact .inr (.inr (.inr (.inl e)))
  have hAM : ∀ x, G.AddM q x → G.Mem q x := by
    rintro x (rfl | e)
    · exact .inl rfl
    · exact .inr (.inl e)
  have hs3 := hb3.size
  have hs5 := hF5.size
  have hDm : ∀ x, (D.put G.end_ v (recL G.R.length k b) wv').Mem G.p x → D.Mem G.p x ∨ w.heap.size ≤ x := by
    rintro x (rfl | rfl | rfl | e | ⟨y, hy, e⟩)
    · exact .inl (.inl rfl)
    · exact .inl (.inr (.inl rfl))
    · exact .inl (.inr (.inr (.inl rfl)))
    · rcases hw5 x e with e' | e'
      · exact .inl (.inr (.inr (.inr (.inl e'))))
      · exact .inr (by omega)
    · rcases List.mem_append.1 (show y ∈ D.W ++ [(⟨G.end_, v, recL G.R.length k b⟩ : Wr)] from hy) with hy | hy
      · exact .inl (.inr (.inr (.inr (.inr ⟨y, hy, e⟩))))
      · simp at hy
        subst hy
        exact .inr (hvb x e)
  have hGm : ∀ x, (G.add ⟨k, bv, b⟩ rv').Mem q x → G.Mem q x ∨ (bv.ownBlock = some x ∨ w5.heap.size ≤ x) := by
    rintro x (rfl | e | ⟨y, hy, e⟩)
    · exact .inl (.inl rfl)
    · rcases hw6 x e with e' | e'
      · exact .inl (.inr (.inl e'))
      · exact .inr (.inr e')
    · rcases List.mem_append.1 (show y ∈ G.R ++ [(⟨k, bv, b⟩ : Rc)] from hy) with hy | hy
      · exact .inl (.inr (.inr ⟨y, hy, e⟩))
      · simp at hy
        subst hy
        exact .inr (.inl e)
  have hlt : ∀ x, G.Mem q x → x < w.heap.size := fun x hx => h.lg.lt hx
  refine ⟨⟨?_, hG, ?_⟩, ?_, ?_, rfl, rfl, ⟨v, rfl⟩, rfl, ⟨bv, rfl⟩, rfl, rfl, rfl, rfl⟩
  · refine hD.fr hF6 (fun x hx hA => ?_)
    rcases hDm x hx with e | e
    · exact h.ap x (hAM x hA) e
    · have := hlt x (hAM x hA)
      omega
  · intro x hx hd
    rcases hGm x hx with e | e | e
    · rcases hDm x hd with e' | e'
      · exact h.ap x e e'
      · have := hlt x e
        omega
    · have hge := own_ge hbv e
      rcases hd with rfl | rfl | rfl | e' | ⟨y, hy, e'⟩
      · have := h.dk.lt (.inl rfl : D.Mem G.p G.p); have hge' : w.heap.size ≤ G.p := hge; omega
      · have := h.dk.lt (.inr (.inl rfl) : D.Mem G.p D.gs); have hge' : w.heap.size ≤ D.gs := hge; omega
      · have := h.dk.lt (.inr (.inr (.inl rfl)) : D.Mem G.p D.gn); have hge' : w.heap.size ≤ D.gn := hge; omega
      · exact (hbv2 x e).2 e'
      · rcases List.mem_append.1 (show y ∈ D.W ++ [(⟨G.end_, v, recL G.R.length k b⟩ : Wr)] from hy) with hy | hy
        · have := h.dk.lt (.inr (.inr (.inr (.inr ⟨y, hy, e'⟩))) : D.Mem G.p x); omega
        · simp at hy
          subst hy
          exact (hbv2 x e).1 e'
    · have := hD.lt hd
      omega
  · refine ((Fr.of_below (S := JMem q D G) hb3 (Nat.le_refl _)).trans hF5 (fun x hx => .inl (.inl (hPM x hx)))).trans hF6 (fun x hx => .inl (.inr (hAM x hx)))
  · rintro x (hx | hx)
    · rcases hDm x hx with e | e
      · exact .inl (.inl e)
      · exact .inr e
    · rcases hGm x hx with e | e | e
      · exact .inl (.inr e)
      · exact .inr (own_ge hbv e)
      · exact .inr (by omega)
set_option maxHeartbeats 4000000 in
theorem append_ok {w : World} {q : Nat} {D : Dk} {G : Lg} (h : JL w q D G) (hk : D.Ok) (hW : D.W.length ≤ 1099511627776) (hR : G.R.length ≤ 1099511627776) (hs : G.size = D.S.length) (he : G.end_ ≤ G.size) {k : BitVec 8} {a : Option Addr} {n cp : Nat} {b : List (BitVec 8)}
    (hB : BytesAt w a b) (hn : b.length = n) (hT : CrcTab w) (hE : G.takesE D.lives k n = 0) :
    Calls Tryd.prog 19 #[pt q 0, .int .u8 (ub k), .slice a n cp] w fun e w' => e = .returned (.tuple #[.int .u64 (G.R.length : Nat), .int .i64 0]) ∧ ∃ D' G', Apd w w' q D G k b D' G' := by
  have hs2 : G.size ≤ 16777216 := by rw [hs]; exact hk.s2
  have hT1 := takes_any h.lg h.dk hs2 he k n
  rw [hE] at hT1
  have hfit : n ≤ 65536 ∧ G.end_ + (18 + n) ≤ D.S.length := by
    unfold Lg.takesE at hE
    split at hE
    · omega
    · split at hE
      · omega
      · split at hE
        · omega
        · split at hE
          · omega
          · unfold Lg.room at *
            omega
  have HTK := hid hT1
  have HJ := hid h
  have HLN : Hid (∀ w1, Below w.heap.size w w1 → Calls Tryd.prog 15 #[pt q 0] w1 fun e w' => e = .returned (.int .u64 (G.R.length : Nat)) ∧ w' = w1) := fun w1 hb => len_any (h.lg.kept hb)
  have HCL : Hid (∀ w1, Below w.heap.size w w1 → Calls Tryd.prog 35 #[.slice a n cp] w1 fun e w' => ∃ v, e = .returned v ∧ OwnBy w' w.heap.size v b ∧ Below w.heap.size w w') := fun w1 hb => by
    refine (clone_any (hB.kept hb) hn (by omega)).mono ?_
    rintro e w' ⟨v, rfl, hO, hb2⟩
    exact ⟨v, rfl, own_less hO hb.size, below_two hb hb2 (Nat.le_refl _)⟩
  have HCT := hid hT
  have HFIT := hid hfit
  have HNB := hid hn
  have HDK := hid hk
  have HWL := hid hW
  have HRL := hid hR
  have HSZ := hid hs
  have hR2 : (G.R.length : Int) < 18446744073709551616 := by omega
  clear h hk hW hR hs he hB hn hT hE hs2 hT1 hfit
  go_enter Tryd.func19, Tryd.ntmps19
  go_upto_region 5 with (first | (go_at_call 37; refine HTK.out.mono ?_; rintro e w1 ⟨rfl, hb1⟩; have HB1 := hid hb1; clear hb1) | (go_at_call 15; refine (HLN.out _ HB1.out).mono ?_; rintro e w2 ⟨rfl, rfl⟩) | (go_at_call 35; refine (HCL.out _ HB1.out).mono ?_; rintro e w3 ⟨bv, rfl, hO3, hb3⟩; obtain ⟨ba, bc, eb, -⟩ := own_len hO3; subst eb; have HO3 := hid hO3; have HB3 := hid hb3; clear hO3 hb3))
  have hb4 := below_new w3 (.cells #[.int .u64 (G.R.length : Nat), .int .u8 (ub k), .slice ba b.length bc] 41)
  have R4 := Row.new w3 [.int .u64 (G.R.length : Nat), .int .u8 (ub k), .slice ba b.length bc] 41
  have hall := And.intro hb4 R4
  clear hb4 R4 HTK HLN HCL
  revert hall
  generalize w3.alloc (.cells #[.int .u64 (G.R.length : Nat), .int .u8 (ub k), .slice ba b.length bc] 41) = w4
  rintro ⟨hb4, R4⟩
  have hb04 : Below w.heap.size w w4 := below_two HB3.out hb4 (Nat.le_refl _)
  have HB4 := hid hb04
  have HJ4 := hid (HJ.out.kept hb04)
  have HO4 := hid (own_below HO3.out hb4)
  have HR4 := hid R4
  have HS34 := hid (show w.heap.size ≤ w3.heap.size from HB3.out.size)
  have b0 := R4.cell 0 _ rfl
  have b1 := R4.cell 1 _ rfl
  have b2 := R4.cell 2 _ rfl
  have g0 := HJ4.out.lg.row.cell 0 _ rfl
  have g3 := HJ4.out.lg.row.cell 3 _ rfl
  have HLD : Hid (∀ w5, Below w4.heap.size w4 w5 → Calls Tryd.prog 38 #[.agg #[.int .u64 (G.R.length : Nat), .int .u8 (ub k), .slice ba b.length bc]] w5 fun e w' => ∃ v, e = .returned v ∧ (OwnBy w' w4.heap.size v (recL G.R.length k b) ∧ Below w4.heap.size w4 w')) := fun w5 hb5 => by
    obtain ⟨a', c', e', hBy, _, _, hz, _⟩ := ownBy_shape HO4.out
    cases e'
    refine (laid_any w5 G.R.length k (hBy.kept hb5) rfl hz (by rw [HNB.out]; have := HFIT.out.1; omega) (by have := HRL.out; omega) (HCT.out.kept (below_two hb04 hb5 (Nat.le_refl _)))).mono ?_
    rintro e w' ⟨v, rfl, hO, hb⟩
    exact ⟨v, rfl, own_less hO hb5.size, below_two hb5 hb (Nat.le_refl _)⟩
  have HPT : Hid (∀ w5 v, OwnBy w5 w4.heap.size v (recL G.R.length k b) → Below w4.heap.size w4 w5 → Calls Tryd.prog 66 #[pt G.p 0, .int .i64 (G.end_ : Nat), v] w5 fun e w' => ∃ v0, e = .returned v0 ∧ (v0 = .tuple #[] ∧ ∃ wv', DkAt w' G.p (D.put G.end_ v (recL G.R.length k b) wv') ∧ Fr (D.PutM G.p) w4 w' ∧ (∀ g, wv'.ownBlock = some g → D.wv.ownBlock = some g ∨ w4.heap.size ≤ g))) := fun w5 v hv hb5 => by
    have hj5 := HJ4.out.kept hb5
    have hlts : D.gs < w4.heap.size := HJ4.out.dk.lt (.inr (.inl rfl))
    have hltn : D.gn < w4.heap.size := HJ4.out.dk.lt (.inr (.inr (.inl rfl)))
    have hfit := HFIT.out
    refine (put_any hj5.dk HDK.out HWL.out (own_less hv (Nat.zero_le _)) (fun e => by have := own_ge hv e; omega) (fun e => by have := own_ge hv e; omega) (by rw [recL_len]; omega) (by rw [recL_len, HNB.out]; exact hfit.2)).mono ?_
    rintro e w' ⟨rfl, wv', h1, h2, h3⟩
    refine ⟨_, rfl, rfl, wv', h1, (Fr.of_below (S := D.PutM G.p) hb5 (Nat.le_refl _)).trans h2 (fun _ e => .inl e), fun g e => ?_⟩
    rcases h3 g e with e' | e'
    · exact .inl e'
    · exact .inr (Nat.le_trans hb5.size e')
  have hPMx : ∀ x, D.PutM G.p x → D.Mem G.p x := by
    rintro x (rfl | rfl | e)
    · exact .inl rfl
    · exact .inr (.inr (.inl rfl))
    · exact .inr (.inr (.inr (.inl e)))
  have hPlt : ∀ x, D.PutM G.p x → x < w.heap.size := fun x e => HJ.out.dk.lt (hPMx x e)
  have hbvn : ∀ g, (Value.slice ba b.length bc).ownBlock = some g → ¬ D.PutM G.p g := fun g e e' => by have := own_ge HO3.out e; have := hPlt g e'; omega
  have HAD : Hid (∀ w5 v wv', OwnBy w5 0 v (recL G.R.length k b) → DkAt w5 G.p (D.put G.end_ v (recL G.R.length k b) wv') → Fr (D.PutM G.p) w4 w5 → (∀ g, v.ownBlock = some g → w4.heap.size ≤ g) → (∀ g, wv'.ownBlock = some g → D.wv.ownBlock = some g ∨ w4.heap.size ≤ g) →
      (w5.cell? ⟨w3.heap.size, 0, none⟩ = some (.int .u64 (G.R.length : Nat)) ∧ w5.cell? ⟨w3.heap.size, 1, none⟩ = some (.int .u8 (ub k)) ∧ w5.cell? ⟨w3.heap.size, 2, none⟩ = some (.slice ba b.length bc)) ∧
      Calls Tryd.prog 39 #[pt q 0, .agg #[.int .u64 (G.R.length : Nat), .int .u8 (ub k), .slice ba b.length bc]] w5 fun e w' => e = .returned (.tuple #[]) ∧ w'.cell? ⟨w3.heap.size, 0, none⟩ = some (.int .u64 (G.R.length : Nat)) ∧ ∃ D' G', Apd w w' q D G k b D' G') := fun w5 v wv' _ hD5 hF5 hvn hwn => by
    have hbx : ¬ D.PutM G.p w3.heap.size := fun e => by have := hPlt _ e; have := HS34.out; omega
    have hr5 := hF5.row HR4.out hbx
    have hlg5 : LgAt w5 q G := HJ4.out.lg.fr hF5 (fun x hx e => HJ.out.ap x hx (hPMx x e))
    refine ⟨⟨hr5.cell 0 _ rfl, hr5.cell 1 _ rfl, hr5.cell 2 _ rfl⟩, ?_⟩
    have hfit := HFIT.out
    refine (add_any (x := ⟨k, .slice ba b.length bc, b⟩) hlg5 HRL.out (by have := HDK.out.s2; omega) (own_less (hF5.own HO4.out hbvn) (Nat.zero_le _)) (by show b.length ≤ _; rw [HNB.out]; omega)).mono ?_
    rintro e w' ⟨rfl, rv', h1, h2, h3⟩
    refine ⟨rfl, ?_, _, _, apd_of HJ.out HB4.out HO4.out (fun g e => Nat.le_trans HB4.out.size (hvn g e)) hD5 hF5 hwn (fun g e => ?_) h1 h2 h3⟩
    · refine (h2.row hr5 ?_).cell 0 _ rfl
      rintro (e | e)
      · have := HJ.out.lg.row.lt; have := HS34.out; omega
      · have := own_lt HJ.out.lg.recs e; have := HS34.out; omega
    · have hg1 := own_ge HO3.out e
      have hg2 := own_lt HO4.out e
      refine ⟨fun e' => by have := hvn g e'; omega, fun e' => ?_⟩
      rcases hwn g e' with e2 | e2
      · have := own_lt HJ.out.dk.wait e2; omega
      · omega
  have hm := m_put
  clear hb4 R4 hb04 hPMx hPlt hbvn HJ4 HR4 HO3 HJ HB1 HB3
  refine wp_region_last (S := fun w' => Hid (Below w4.heap.size w4 w') ∧ w'.cell? ⟨q, 0, none⟩ = some (.iface 22 (.pointer (some ⟨G.p, 0, none⟩))) ∧ w'.cell? ⟨q, 3, none⟩ = some (.int .i64 (G.end_ : Nat)) ∧ w'.cell? ⟨w3.heap.size, 0, none⟩ = some (.int .u64 (G.R.length : Nat)) ∧ w'.cell? ⟨w3.heap.size, 1, none⟩ = some (.int .u8 (ub k)) ∧ w'.cell? ⟨w3.heap.size, 2, none⟩ = some (.slice ba b.length bc)) (N := 12) (by kernel_rfl) (by kernel_rfl) fun hNW => ?_
  have hHeld := (show (fun w' => Hid (Below w4.heap.size w4 w') ∧ w'.cell? ⟨q, 0, none⟩ = some (.iface 22 (.pointer (some ⟨G.p, 0, none⟩))) ∧ w'.cell? ⟨q, 3, none⟩ = some (.int .i64 (G.end_ : Nat)) ∧ w'.cell? ⟨w3.heap.size, 0, none⟩ = some (.int .u64 (G.R.length : Nat)) ∧ w'.cell? ⟨w3.heap.size, 1, none⟩ = some (.int .u8 (ub k)) ∧ w'.cell? ⟨w3.heap.size, 2, none⟩ = some (.slice ba b.length bc)) w4.drew from ⟨below_drewN (Below.refl _ _) 1, g0, g3, b0, b1, b2⟩)
  refine wpAnyF_take (i := 0) (oi := { dst := some 24, op := Go.Op.move (Go.Operand.tmp 0), type := 26, pos := "journal.go:75", after := #[], guard := none }) (v := ?v1_0) hNW (by decide) rfl (by kernel_rfl) (by kernel_rfl) (by kernel_rfl) (by kernel_rfl) (fun _ _ _ h => h) (Or.inl ⟨by kernel_rfl, ?h1_0⟩) (by assumption) ?r1_0
  case h1_0 => (intro wt hSw; obtain ⟨-, hs0, hs1, hs2, hs3, hs4⟩ := hSw; go_simp; try with_reducible rfl)
  simp only [Act.put, List.setIfInBounds_toArray, List.set_cons_zero, List.set_cons_succ]
  refine wpAnyF_take (i := 1) (oi := { dst := some 25, op := Go.Op.nilCheck (Go.Operand.tmp 24), type := 0, pos := "journal.go:75", after := #[{ on := 0, ground := Go.Ground.data }], guard := none }) (v := ?v1_1) hNW (by decide) rfl (by kernel_rfl) (by kernel_rfl) (by kernel_rfl) (by kernel_rfl) (fun _ _ _ h => h) (Or.inl ⟨by kernel_rfl, ?h1_1⟩) (by assumption) ?r1_1
  case h1_1 => (intro wt hSw; obtain ⟨-, hs0, hs1, hs2, hs3, hs4⟩ := hSw; go_simp; try with_reducible rfl)
  simp only [Act.put, List.setIfInBounds_toArray, List.set_cons_zero, List.set_cons_succ]
  refine wpAnyF_take (i := 2) (oi := { dst := some 26, op := Go.Op.fieldAddr 83 (Go.Operand.tmp 25) 0, type := 0, pos := "journal.go:75", after := #[{ on := 1, ground := Go.Ground.data }], guard := none }) (v := ?v1_2) hNW (by decide) rfl (by kernel_rfl) (by kernel_rfl) (by kernel_rfl) (by kernel_rfl) (fun _ _ _ h => h) (Or.inl ⟨by kernel_rfl, ?h1_2⟩) (by assumption) ?r1_2
  case h1_2 => (intro wt hSw; obtain ⟨-, hs0, hs1, hs2, hs3, hs4⟩ := hSw; go_simp; try with_reducible rfl)
  simp only [Act.put, List.setIfInBounds_toArray, List.set_cons_zero, List.set_cons_succ]
  refine wpAnyF_take (i := 3) (oi := { dst := some 27, op := Go.Op.load 81 (Go.Operand.tmp 26), type := 81, pos := "journal.go:75", after := #[{ on := 2, ground := Go.Ground.data }], guard := none }) (v := ?v1_3) hNW (by decide) rfl (by kernel_rfl) (by kernel_rfl) (by kernel_rfl) (by kernel_rfl) (fun _ _ _ h => h) (Or.inl ⟨by kernel_rfl, ?h1_3⟩) (by assumption) ?r1_3
  case h1_3 => (intro wt hSw; obtain ⟨-, hs0, hs1, hs2, hs3, hs4⟩ := hSw; go_simp; try with_reducible rfl)
  simp only [Act.put, List.setIfInBounds_toArray, List.set_cons_zero, List.set_cons_succ]
  refine wpAnyF_take (i := 4) (oi := { dst := some 28, op := Go.Op.move (Go.Operand.tmp 0), type := 26, pos := "journal.go:75", after := #[], guard := none }) (v := ?v1_4) hNW (by decide) rfl (by kernel_rfl) (by kernel_rfl) (by kernel_rfl) (by kernel_rfl) (fun _ _ _ h => h) (Or.inl ⟨by kernel_rfl, ?h1_4⟩) (by assumption) ?r1_4
  case h1_4 => (intro wt hSw; obtain ⟨-, hs0, hs1, hs2, hs3, hs4⟩ := hSw; go_simp; try with_reducible rfl)
  simp only [Act.put, List.setIfInBounds_toArray, List.set_cons_zero, List.set_cons_succ]
  refine wpAnyF_take (i := 5) (oi := { dst := some 29, op := Go.Op.nilCheck (Go.Operand.tmp 28), type := 0, pos := "journal.go:75", after := #[{ on := 4, ground := Go.Ground.data }], guard := none }) (v := ?v1_5) hNW (by decide) rfl (by kernel_rfl) (by kernel_rfl) (by kernel_rfl) (by kernel_rfl) (fun _ _ _ h => h) (Or.inl ⟨by kernel_rfl, ?h1_5⟩) (by assumption) ?r1_5
  case h1_5 => (intro wt hSw; obtain ⟨-, hs0, hs1, hs2, hs3, hs4⟩ := hSw; go_simp; try with_reducible rfl)
  simp only [Act.put, List.setIfInBounds_toArray, List.set_cons_zero, List.set_cons_succ]
  refine wpAnyF_take (i := 6) (oi := { dst := some 30, op := Go.Op.fieldAddr 83 (Go.Operand.tmp 29) 3, type := 0, pos := "journal.go:75", after := #[{ on := 5, ground := Go.Ground.data }], guard := none }) (v := ?v1_6) hNW (by decide) rfl (by kernel_rfl) (by kernel_rfl) (by kernel_rfl) (by kernel_rfl) (fun _ _ _ h => h) (Or.inl ⟨by kernel_rfl, ?h1_6⟩) (by assumption) ?r1_6
  case h1_6 => (intro wt hSw; obtain ⟨-, hs0, hs1, hs2, hs3, hs4⟩ := hSw; go_simp; try with_reducible rfl)
  simp only [Act.put, List.setIfInBounds_toArray, List.set_cons_zero, List.set_cons_succ]
  refine wpAnyF_take (i := 7) (oi := { dst := some 31, op := Go.Op.load 3 (Go.Operand.tmp 30), type := 3, pos := "journal.go:75", after := #[{ on := 6, ground := Go.Ground.data }], guard := none }) (v := ?v1_7) hNW (by decide) rfl (by kernel_rfl) (by kernel_rfl) (by kernel_rfl) (by kernel_rfl) (fun _ _ _ h => h) (Or.inl ⟨by kernel_rfl, ?h1_7⟩) (by assumption) ?r1_7
  case h1_7 => (intro wt hSw; obtain ⟨-, hs0, hs1, hs2, hs3, hs4⟩ := hSw; go_simp; try with_reducible rfl)
  simp only [Act.put, List.setIfInBounds_toArray, List.set_cons_zero, List.set_cons_succ]
  refine wpAnyF_take (i := 8) (oi := { dst := some 32, op := Go.Op.load 41 (Go.Operand.tmp 9), type := 41, pos := "journal.go:75", after := #[], guard := none }) (v := ?v1_8) hNW (by decide) rfl (by kernel_rfl) (by kernel_rfl) (by kernel_rfl) (by kernel_rfl) (fun _ _ _ h => h) (Or.inl ⟨by kernel_rfl, ?h1_8⟩) (by assumption) ?r1_8
  case h1_8 => (intro wt hSw; obtain ⟨-, hs0, hs1, hs2, hs3, hs4⟩ := hSw; go_simp; try with_reducible rfl)
  simp only [Act.put, List.setIfInBounds_toArray, List.set_cons_zero, List.set_cons_succ]
  refine wpAnyF_take (i := 10) (oi := { dst := some 34, op := Go.Op.nilCheck (Go.Operand.tmp 27), type := 81, pos := "journal.go:75", after := #[{ on := 3, ground := Go.Ground.data }], guard := none }) (v := ?v1_10) hNW (by decide) rfl (by kernel_rfl) (by kernel_rfl) (by kernel_rfl) (by kernel_rfl) (fun _ _ _ h => h) (Or.inl ⟨by kernel_rfl, ?h1_10⟩) (by assumption) ?r1_10
  case h1_10 => (intro wt hSw; obtain ⟨-, hs0, hs1, hs2, hs3, hs4⟩ := hSw; go_simp; try with_reducible rfl)
  simp only [Act.put, List.setIfInBounds_toArray, List.set_cons_zero, List.set_cons_succ]
  refine wpAnyF_take (i := 11) (oi := { dst := some 35, op := Go.Op.move (Go.Operand.tmp 27), type := 81, pos := "journal.go:75", after := #[{ on := 3, ground := Go.Ground.data }, { on := 10, ground := Go.Ground.data }], guard := none }) (v := ?v1_11) hNW (by decide) rfl (by kernel_rfl) (by kernel_rfl) (by kernel_rfl) (by kernel_rfl) (fun _ _ _ h => h) (Or.inl ⟨by kernel_rfl, ?h1_11⟩) (by assumption) ?r1_11
  case h1_11 => (intro wt hSw; obtain ⟨-, hs0, hs1, hs2, hs3, hs4⟩ := hSw; go_simp; try with_reducible rfl)
  simp only [Act.put, List.setIfInBounds_toArray, List.set_cons_zero, List.set_cons_succ]
  refine wpAnyF_one (i := 9) (o := { dst := some 33, op := Go.Op.call { callee := Go.Callee.value (Go.Operand.func 38), args := #[Go.Operand.tmp 32], argTypes := #[41] }, type := 30, pos := "journal.go:75", after := #[{ on := 8, ground := Go.Ground.data }], guard := none }) rfl rfl (by kernel_rfl) ?_
  refine step_callx (f := 38) (args := #[.agg #[.int .u64 (G.R.length : Nat), .int .u8 (ub k), .slice ba b.length bc]]) (by first | kernel_rfl | go_simp) (HLD.out _ (below_drewN (Below.refl _ _) 1)) ?_
  rintro v5 w5 ⟨hO5, hBb⟩
  obtain ⟨a5, c5, e5, -⟩ := own_len hO5
  subst e5
  have HO5 := hid hO5
  clear hO5
  have hHeld2 := (show (fun w' => Hid (Below w4.heap.size w4 w') ∧ w'.cell? ⟨q, 0, none⟩ = some (.iface 22 (.pointer (some ⟨G.p, 0, none⟩))) ∧ w'.cell? ⟨q, 3, none⟩ = some (.int .i64 (G.end_ : Nat)) ∧ w'.cell? ⟨w3.heap.size, 0, none⟩ = some (.int .u64 (G.R.length : Nat)) ∧ w'.cell? ⟨w3.heap.size, 1, none⟩ = some (.int .u8 (ub k)) ∧ w'.cell? ⟨w3.heap.size, 2, none⟩ = some (.slice ba b.length bc)) w5 from ⟨hBb, cell_kept hBb g0, cell_kept hBb g3, cell_kept hBb b0, cell_kept hBb b1, cell_kept hBb b2⟩)
  refine ⟨fun _ => hHeld2, ?_⟩
  simp only [Act.put, List.setIfInBounds_toArray, List.set_cons_zero, List.set_cons_succ]
  refine wpAnyF_one (i := 12) (o := { dst := some 36, op := Go.Op.call { callee := Go.Callee.invoke (Go.Operand.tmp 35) "braid/journal.put", args := #[Go.Operand.tmp 31, Go.Operand.tmp 33], argTypes := #[3, 30] }, type := 0, pos := "journal.go:75", after := #[{ on := 11, ground := Go.Ground.data }, { on := 7, ground := Go.Ground.data }, { on := 9, ground := Go.Ground.data }, { on := 9, ground := Go.Ground.chain }], guard := none }) rfl rfl (by kernel_rfl) ?_
  refine step_callx (f := 66) (args := #[pt G.p 0, .int .i64 (G.end_ : Nat), .slice a5 (recL G.R.length k b).length c5]) (by first | kernel_rfl | go_simp) (HPT.out _ _ HO5.out hBb) ?_
  rintro v6 w6 ⟨rfl, wv', hD6, hF6, hw6⟩
  have hO6 : OwnBy w6 0 (.slice a5 (recL G.R.length k b).length c5) (recL G.R.length k b) := hD6.by_ ⟨G.end_, .slice a5 (recL G.R.length k b).length c5, recL G.R.length k b⟩ (by simp [Dk.put])
  obtain ⟨⟨y0, y1, y2⟩, hAA⟩ := HAD.out w6 _ wv' hO6 hD6 hF6 (fun g e => own_ge HO5.out e) hw6
  clear hO6 hD6 hF6 hw6 HO5
  refine ⟨fun h => absurd rfl h, ?_⟩
  simp only [Act.put]
  refine wpAnyF_done (by kernel_rfl) ?_ _
  clear hNW hHeld hHeld2 hBb
  have HAA := hid hAA
  clear hAA HAD HPT HLD
  go_wp2_with (go_at_call 39; refine HAA.out.mono ?_; rintro e w8 ⟨rfl, z0, hZ⟩; have HZ := hid hZ; clear hZ)
  go_ret2
  exact ⟨rfl, HZ.out⟩
end Go.Proofs.YtfhjiggaacgncaaDoor
