import Derived.Test.YtaklbofbhanjgaaDoorRows0
import Derived.StillTailTactics
import Derived.Laws.CopyOwn
namespace Go.Proofs.YtaklbofbhanjgaaDoor
open Go.RowKit

def sg0 (x : BitVec 32) : BitVec 32 := rotr x 7 ^^^ rotr x 18 ^^^ x >>> 3
def sg1 (x : BitVec 32) : BitVec 32 := rotr x 17 ^^^ rotr x 19 ^^^ x >>> 10
/-- The t-th word of a block. -/
def blockWord (b : List (BitVec 8)) (t : Nat) : BitVec 32 := word4 (b.getD (4 * t) 0) (b.getD (4 * t + 1) 0) (b.getD (4 * t + 2) 0) (b.getD (4 * t + 3) 0)
/-- The word behind those that are there. -/
def nextWord (ws : List (BitVec 32)) : BitVec 32 :=
  ws.getD (ws.length - 16) 0 + sg0 (ws.getD (ws.length - 15) 0) + ws.getD (ws.length - 7) 0 + sg1 (ws.getD (ws.length - 2) 0)
def firstWords (b : List (BitVec 8)) (n : Nat) : List (BitVec 32) := (List.range n).map (blockWord b)
/-- A block's sixteen words, and n that are made of them. -/
def wordsOf (b : List (BitVec 8)) : Nat → List (BitVec 32)
  | 0 => firstWords b 16
  | n + 1 => wordsOf b n ++ [nextWord (wordsOf b n)]
theorem wordsOf_len (b : List (BitVec 8)) (n : Nat) : (wordsOf b n).length = 16 + n := by
  induction n with
  | zero => simp [wordsOf, firstWords]
  | succ n ih => simp [wordsOf, ih]; omega
/-- Words, and zeros behind them up to 64. -/
def filled (l : List (BitVec 32)) : List (BitVec 32) := l ++ List.replicate (64 - l.length) 0#32
theorem filled_len (l : List (BitVec 32)) (h : l.length ≤ 64) : (filled l).length = 64 := by simp [filled]; omega
theorem filled_set (l : List (BitVec 32)) (x : BitVec 32) (h : l.length < 64) : (filled l).set l.length x = filled (l ++ [x]) := by
  unfold filled
  rw [List.set_append_right _ _ (Nat.le_refl _), Nat.sub_self]
  obtain ⟨n, hn⟩ : ∃ n, 64 - l.length = n + 1 := ⟨63 - l.length, by omega⟩
  have : 64 - (l ++ [x]).length = n := by simp; omega
  rw [hn, this, List.replicate_succ]
  simp
theorem filled_get (l : List (BitVec 32)) (j : Nat) (h : j < l.length) (h2 : j < (filled l).length) : (filled l)[j] = l.getD j 0 := by
  simp [filled, h]
theorem firstWords_snoc (b : List (BitVec 8)) (k : Nat) : firstWords b (k + 1) = firstWords b k ++ [blockWord b k] := by
  simp [firstWords, List.range_succ]
theorem firstWords_len (b : List (BitVec 8)) (k : Nat) : (firstWords b k).length = k := by simp [firstWords]
theorem wget {l : List (BitVec 32)} (hl : l.length ≤ 64) {w : World} {g : Nat} (R : Row w g (wcells (filled l)) 113) (j : Nat) (hj : j < l.length) : w.cell? ⟨g, j, none⟩ = some (.int .u32 (u (l.getD j 0))) := by
  have h2 : j < (filled l).length := by rw [filled_len l hl]; omega
  rw [R.cell j _ (wcells_get h2), filled_get l j hj h2]
theorem wget0 {l : List (BitVec 32)} (hl : l.length ≤ 64) {w : World} {g : Nat} (R : Row w g (wcells (filled l)) 113) (j : Nat) (hj : j < 64) : ∃ v, w.cell? ⟨g, j, none⟩ = some v :=
  ⟨_, R.cell j _ (wcells_get (by rw [filled_len l hl]; exact hj))⟩
theorem filled_full (l : List (BitVec 32)) (h : l.length = 64) : filled l = l := by simp [filled, h]
end Go.Proofs.YtaklbofbhanjgaaDoor
namespace Go.Proofs.YtaklbofbhanjgaaDoor
open Go.RowKit
set_option maxRecDepth 100000

theorem wrap_small (x : Int) (h0 : 0 ≤ x) (h1 : x ≤ 281474976710656) : IntKind.i64.wrap x = x := by
  unfold IntKind.wrap; simp [IntKind.bits, IntKind.signed]; omega
theorem bget {b : List (BitVec 8)} (hb : b.length = 64) {w : World} {g : Nat} (R : Row w g (bcells b) 106) (j : Nat) (hj : j < 64) : w.cell? ⟨g, j, none⟩ = some (.int .u8 (ub (b.getD j 0))) := by
  rw [R.cell j _ (bcells_get (l := b) (by omega))]
  simp [List.getD, List.getElem?_eq_getElem (show j < b.length by omega)]

set_option maxHeartbeats 1500000 in
theorem schedule_any {w : World} (b : List (BitVec 8)) (hb : b.length = 64) :
    Calls Tryd.prog 108 #[.agg (bcells b).toArray] w fun e w' => e = .returned (.agg (wcells (wordsOf b 48)).toArray) ∧ Below w.heap.size w w' := by
  have HL : Hid _ := hb
  clear hb
  go_enter Tryd.func108, Tryd.ntmps108
  go_wp2
  go_loopw [10] (fun i wr => ∃ k : Nat, k ≤ 16 ∧ i = .int .i64 k ∧ Row wr w.heap.size (bcells b) 106 ∧ Row wr (w.heap.size + 2) (wcells (filled (firstWords b k))) 113 ∧ Row wr (w.heap.size + 1) (wcells (filled [])) 113 ∧ Below w.heap.size w wr) (fun i _ => 16 - (intOf i).toNat)
  case atStart =>
    refine ⟨0, by omega, rfl, ((Row.new w _ _).alloc _).alloc _, Row.new' _ _ _ _ _ (by simp) rfl, (Row.new' _ _ _ _ _ (by simp) rfl).alloc _, (((Below.refl _ _).alloc (Nat.le_refl _) _).alloc (by simp) _).alloc (by simp; omega) _⟩
  case round =>
    obtain ⟨k, hk, rfl, R0, R2, R1, hbel⟩ := hrel
    by_cases hlt : k < 16
    · have hlt' : (k : Int) < 16 := by omega
      have c0 := bget HL.out R0 (4 * k) (by omega)
      have c1 := bget HL.out R0 (4 * k + 1) (by omega)
      have c2 := bget HL.out R0 (4 * k + 2) (by omega)
      have c3 := bget HL.out R0 (4 * k + 3) (by omega)
      have hw : Hid (blockWord b k = word4 (b.getD (4 * k) 0) (b.getD (4 * k + 1) 0) (b.getD (4 * k + 2) 0) (b.getD (4 * k + 3) 0)) := rfl
      generalize b.getD (4 * k) 0 = b0 at *
      generalize b.getD (4 * k + 1) 0 = b1 at *
      generalize b.getD (4 * k + 2) 0 = b2 at *
      generalize b.getD (4 * k + 3) 0 = b3 at *
      obtain ⟨m, hm, hm2⟩ : ∃ m : Nat, m = 4 * k ∧ m ≤ 60 := ⟨_, rfl, by omega⟩
      rw [← hm] at c0 c1 c2 c3
      have w0 : IntKind.i64.wrap (4 * (k : Int)) = (m : Int) := by rw [wrap_small _ (by omega) (by omega)]; omega
      have w1 : IntKind.i64.wrap ((m : Int) + 1) = (m : Int) + 1 := wrap_small _ (by omega) (by omega)
      have w2 : IntKind.i64.wrap ((m : Int) + 2) = (m : Int) + 2 := wrap_small _ (by omega) (by omega)
      have w3 : IntKind.i64.wrap ((m : Int) + 3) = (m : Int) + 3 := wrap_small _ (by omega) (by omega)
      have t1 : ((m : Int) + 1).toNat = m + 1 := by omega
      have t2 : ((m : Int) + 2).toNat = m + 2 := by omega
      have t3 : ((m : Int) + 3).toNat = m + 3 := by omega
      have g0 : (m : Int) < 64 := by omega
      have g1 : (m : Int) + 1 < 64 := by omega
      have g2 : (m : Int) + 2 < 64 := by omega
      have g3 : (m : Int) + 3 < 64 := by omega
      have g4 : (0 : Int) ≤ (m : Int) + 1 := by omega
      have g5 : (0 : Int) ≤ (m : Int) + 2 := by omega
      have g6 : (0 : Int) ≤ (m : Int) + 3 := by omega
      have g7 : (k : Int) < 64 := by omega
      have HM : Hid _ := hm
      clear hm hm2
      have f1 := R2.frozen k
      have f2 : ∃ v, wr.cell? ⟨w.heap.size + 2, k, none⟩ = some v := ⟨_, R2.cell k _ (wcells_get (by rw [filled_len _ (by simp [firstWords]; omega)]; omega))⟩
      obtain ⟨v, f2⟩ := f2
      have HR0 : Hid _ := R0
      have HR1 : Hid _ := R1
      have HR2 : Hid _ := R2
      have HB : Hid _ := hbel
      clear R0 R1 R2 hbel
      go_wp2
      refine wp_region_still_tail 22 (by kernel_rfl) (by kernel_rfl) ?_
      replace c0 := cell_drawn (wr.drawn + 1) c0
      replace c1 := cell_drawn (wr.drawn + 1) c1
      replace c2 := cell_drawn (wr.drawn + 1) c2
      replace c3 := cell_drawn (wr.drawn + 1) c3
      replace f1 := frozen_drawn (wr.drawn + 1) f1
      replace f2 := cell_drawn (wr.drawn + 1) f2
      replace HR0 : Hid _ := HR0.out.drawn (wr.drawn + 1)
      replace HR1 : Hid _ := HR1.out.drawn (wr.drawn + 1)
      replace HR2 : Hid _ := HR2.out.drawn (wr.drawn + 1)
      replace HB : Hid _ := below_drawn HB.out (wr.drawn + 1)
      generalize ({ wr with drawn := wr.drawn + 1 } : World) = wq at *
      simp only [List.take_succ_cons, List.take_zero, List.drop_succ_cons, List.drop_zero]
      iterate 20 still_step
      still_call (word_any b0 b1 b2 b3 _)
      still_step
      refine wpStill_nil ?_
      go_wp2
      go_roundw
      case rel =>
        refine ⟨k + 1, hlt, by go_num, HR0.out.setOther _ (show w.heap.size ≠ w.heap.size + 2 by omega) _, ?_, HR1.out.setOther _ (show w.heap.size + 1 ≠ w.heap.size + 2 by omega) _, HB.out.setCell (show w.heap.size ≤ w.heap.size + 2 by omega) _⟩
        have := HR2.out.set k (.int .u32 (u (word4 b0 b1 b2 b3)))
        rw [wcells_set] at this
        have e := filled_set (firstWords b k) (word4 b0 b1 b2 b3) (by rw [firstWords_len]; omega)
        rw [firstWords_len] at e
        rw [e, ← hw.out, ← firstWords_snoc, hw.out] at this
        exact this
      case measure => simp [intOf]; omega
    · have ek : k = 16 := by omega
      obtain ⟨z, hz⟩ : ∃ z : Int, z = (k : Int) := ⟨_, rfl⟩
      rw [← hz]
      have hz2 : z = 16 := by omega
      subst ek
      clear hz
      subst hz2
      have HR0 : Hid _ := R0
      have HR1 : Hid _ := R1
      have HR2 : Hid (Row wr (w.heap.size + 2) (wcells (filled (wordsOf b 0))) 113) := R2
      have HB : Hid _ := hbel
      clear R0 R1 R2 hbel
      obtain ⟨wo, hwo⟩ : ∃ wo, wo = wr := ⟨_, rfl⟩
      subst hwo
      go_wp2
      go_loopw [5] (fun i wr => ∃ m n : Nat, m = 16 + n ∧ m ≤ 64 ∧ i = .int .i64 m ∧ Row wr (w.heap.size + 2) (wcells (filled (wordsOf b n))) 113 ∧ Row wr (w.heap.size + 1) (wcells (filled [])) 113 ∧ Below w.heap.size w wr) (fun i _ => 64 - (intOf i).toNat)
      case atStart => exact ⟨16, 0, rfl, by omega, rfl, HR2.out, HR1.out, HB.out⟩
      case round =>
        clear HR0 HR1 HR2 HB
        obtain ⟨m, n, hmn, hm, rfl, R2, R1, hbel⟩ := hrel
        by_cases hlt : m < 64
        · have hl := wordsOf_len b n
          have d15 := wget (by omega) R2 (n + 1) (by omega)
          have d2 := wget (by omega) R2 (n + 14) (by omega)
          have d16 := wget (by omega) R2 n (by omega)
          have d7 := wget (by omega) R2 (n + 9) (by omega)
          obtain ⟨v, f2⟩ := wget0 (by omega) R2 m hlt
          have f1 := R2.frozen m
          have hN : Hid (nextWord (wordsOf b n) = (wordsOf b n).getD n 0 + sg0 ((wordsOf b n).getD (n + 1) 0) + (wordsOf b n).getD (n + 9) 0 + sg1 ((wordsOf b n).getD (n + 14) 0)) := by
            show nextWord (wordsOf b n) = _
            unfold nextWord
            rw [hl, show 16 + n - 16 = n by omega, show 16 + n - 15 = n + 1 by omega, show 16 + n - 7 = n + 9 by omega, show 16 + n - 2 = n + 14 by omega]
          generalize (wordsOf b n).getD (n + 1) 0 = p at *
          generalize (wordsOf b n).getD (n + 14) 0 = q at *
          generalize (wordsOf b n).getD n 0 = x16 at *
          generalize (wordsOf b n).getD (n + 9) 0 = x7 at *
          obtain ⟨j15, h15⟩ : ∃ j, j = n + 1 := ⟨_, rfl⟩
          obtain ⟨j2, h2⟩ : ∃ j, j = n + 14 := ⟨_, rfl⟩
          obtain ⟨j7, h7⟩ : ∃ j, j = n + 9 := ⟨_, rfl⟩
          rw [← h15] at d15
          rw [← h2] at d2
          rw [← h7] at d7
          have e15 : IntKind.i64.wrap ((m : Int) - 15) = (j15 : Int) := by rw [wrap_small _ (by omega) (by omega)]; omega
          have e2 : IntKind.i64.wrap ((m : Int) - 2) = (j2 : Int) := by rw [wrap_small _ (by omega) (by omega)]; omega
          have e7 : IntKind.i64.wrap ((m : Int) - 7) = (j7 : Int) := by rw [wrap_small _ (by omega) (by omega)]; omega
          have e16 : IntKind.i64.wrap ((m : Int) - 16) = (n : Int) := by rw [wrap_small _ (by omega) (by omega)]; omega
          have g1 : (j15 : Int) < 64 := by omega
          have g2 : (j2 : Int) < 64 := by omega
          have g3 : (j7 : Int) < 64 := by omega
          have g4 : (n : Int) < 64 := by omega
          have g5 : (m : Int) < 64 := by omega
          have HMN : Hid _ := hmn
          have HHL : Hid _ := hl
          have HM : Hid _ := hlt
          have HR1 : Hid _ := R1
          have HR2 : Hid _ := R2
          have HB : Hid _ := hbel
          clear R1 R2 hbel hmn hm h15 h2 h7 hl hlt
          go_wp2
          refine wp_region_still_lit (by kernel_rfl) (by kernel_rfl) ?_
          replace d15 := cell_drawn (wr.drawn + 1) d15
          replace d2 := cell_drawn (wr.drawn + 1) d2
          replace d16 := cell_drawn (wr.drawn + 1) d16
          replace d7 := cell_drawn (wr.drawn + 1) d7
          replace f1 := frozen_drawn (wr.drawn + 1) f1
          replace f2 := cell_drawn (wr.drawn + 1) f2
          replace HR1 : Hid _ := HR1.out.drawn (wr.drawn + 1)
          replace HR2 : Hid _ := HR2.out.drawn (wr.drawn + 1)
          replace HB : Hid _ := below_drawn HB.out (wr.drawn + 1)
          generalize ({ wr with drawn := wr.drawn + 1 } : World) = wq at *
          repeat still_step
          refine wpStill_nil ?_
          go_wp2_with (first | (go_at_call_of 109 (Value.int IntKind.i64 7); refine (turned7 _ _).mono ?_; rintro e w' ⟨rfl, rfl⟩) | (go_at_call_of 109 (Value.int IntKind.i64 18); refine (turned18 _ _).mono ?_; rintro e w' ⟨rfl, rfl⟩) | (go_at_call_of 109 (Value.int IntKind.i64 17); refine (turned17 _ _).mono ?_; rintro e w' ⟨rfl, rfl⟩) | (go_at_call_of 109 (Value.int IntKind.i64 19); refine (turned19 _ _).mono ?_; rintro e w' ⟨rfl, rfl⟩))
          refine wp_region_still_tail 15 (by kernel_rfl) (by kernel_rfl) ?_
          replace d16 := cell_drawn (w'.drawn + 1) d16
          replace d7 := cell_drawn (w'.drawn + 1) d7
          replace f1 := frozen_drawn (w'.drawn + 1) f1
          replace f2 := cell_drawn (w'.drawn + 1) f2
          replace HR1 : Hid _ := HR1.out.drawn (w'.drawn + 1)
          replace HR2 : Hid _ := HR2.out.drawn (w'.drawn + 1)
          replace HB : Hid _ := below_drawn HB.out (w'.drawn + 1)
          generalize ({ w' with drawn := w'.drawn + 1 } : World) = wz at *
          simp only [List.take_succ_cons, List.take_zero, List.drop_succ_cons, List.drop_zero]
          iterate 15 still_step
          refine wpStill_nil ?_
          go_wp2
          go_roundw
          case rel =>
            refine ⟨m + 1, n + 1, by have := HMN.out; omega, by have := HM.out; omega, by go_num, ?_, HR1.out.setOther _ (show w.heap.size + 1 ≠ w.heap.size + 2 by omega) _, HB.out.setCell (show w.heap.size ≤ w.heap.size + 2 by omega) _⟩
            have hr := HR2.out.set m (.int .u32 (u (nextWord (wordsOf b n))))
            have e := filled_set (wordsOf b n) (nextWord (wordsOf b n)) (by rw [HHL.out]; have := HMN.out; have := HM.out; omega)
            rw [HHL.out, ← HMN.out] at e
            rw [wcells_set, e, hN.out] at hr
            show Row _ _ (wcells (filled (wordsOf b n ++ [nextWord (wordsOf b n)]))) 113
            rw [hN.out]
            exact hr
          case measure => simp [intOf]; omega
        · have em : m = 64 := by omega
          have en : n = 48 := by omega
          subst em en
          have hlen : (wordsOf b 48).length = 64 := wordsOf_len b 48
          rw [filled_full _ hlen] at R2
          have i66 : (Tryd.prog.info? 113).map (·.size) = some 64 := by kernel_rfl
          have I66 : Hid _ := i66
          have HL2 : Hid _ := hlen
          have HR1 : Hid _ := R1
          have HR2 : Hid _ := R2
          have HB : Hid _ := hbel
          clear R1 R2 hbel i66 hlen
          go_wp2_with (first
            | (refine HR2.out.wpLoad 113 (.tmp 3) rfl rfl rfl _ Tryd.underlying113 rfl (by rw [wcells_len, HL2.out]; exact I66.out) ?_)
            | (refine HR1.out.wpStore 113 (.tmp 2) (.tmp 79) (wcells (wordsOf b 48)) rfl rfl rfl rfl (by rw [wcells_len, wcells_len, HL2.out]; rfl) (wcells_one _) (by rw [wcells_len, HL2.out]; exact I66.out) ?_))
          refine bodyPost_ret (v := .agg (wcells (wordsOf b 48)).toArray) ((HR1.out.row (wcells (wordsOf b 48))).result Tryd.results108 _ rfl _ Tryd.underlying113 rfl (by rw [wcells_len, HL2.out]; exact I66.out)) rfl ⟨rfl, ?_⟩
          exact Go.below_setRow HB.out (by omega) _
end Go.Proofs.YtaklbofbhanjgaaDoor
namespace Go.Proofs.YtaklbofbhanjgaaDoor
open Go.RowKit

/-- The round constants. -/
def kT : List (BitVec 32) := [1116352408#32, 1899447441#32, 3049323471#32, 3921009573#32, 961987163#32, 1508970993#32, 2453635748#32, 2870763221#32, 3624381080#32, 310598401#32, 607225278#32, 1426881987#32, 1925078388#32, 2162078206#32, 2614888103#32, 3248222580#32, 3835390401#32, 4022224774#32, 264347078#32, 604807628#32, 770255983#32, 1249150122#32, 1555081692#32, 1996064986#32, 2554220882#32, 2821834349#32, 2952996808#32, 3210313671#32, 3336571891#32, 3584528711#32, 113926993#32, 338241895#32, 666307205#32, 773529912#32, 1294757372#32, 1396182291#32, 1695183700#32, 1986661051#32, 2177026350#32, 2456956037#32, 2730485921#32, 2820302411#32, 3259730800#32, 3345764771#32, 3516065817#32, 3600352804#32, 4094571909#32, 275423344#32, 430227734#32, 506948616#32, 659060556#32, 883997877#32, 958139571#32, 1322822218#32, 1537002063#32, 1747873779#32, 1955562222#32, 2024104815#32, 2227730452#32, 2361852424#32, 2428436474#32, 2756734187#32, 3204031479#32, 3329325298#32]
def KTab (w : World) : Prop := ∀ j (_ : j < 64), w.cell? ⟨1, j, none⟩ = some (.int .u32 (u (kT.getD j 0)))
theorem KTab.kept {w w' : World} (h : KTab w) (hb : Below w.heap.size w w') : KTab w' := fun j hj => cell_kept hb (h j hj)

/-- The state's eight words. -/
structure St where
  a : BitVec 32
  b : BitVec 32
  c : BitVec 32
  d : BitVec 32
  e : BitVec 32
  f : BitVec 32
  g : BitVec 32
  h : BitVec 32
def St.l (s : St) : List (BitVec 32) := [s.a, s.b, s.c, s.d, s.e, s.f, s.g, s.h]
def St.x (s : St) (k w : BitVec 32) : BitVec 32 := s.h + (rotr s.e 6 ^^^ rotr s.e 11 ^^^ rotr s.e 25) + (s.e &&& s.f ^^^ ~~~s.e &&& s.g) + k + w
def St.y (s : St) : BitVec 32 := (rotr s.a 2 ^^^ rotr s.a 13 ^^^ rotr s.a 22) + (s.a &&& s.b ^^^ s.a &&& s.c ^^^ s.b &&& s.c)
/-- One round. -/
def rnd (s : St) (k w : BitVec 32) : St := ⟨s.x k w + s.y, s.a, s.b, s.c, s.d + s.x k w, s.e, s.f, s.g⟩
def rnds (s : St) (ws : List (BitVec 32)) : Nat → St
  | 0 => s
  | n + 1 => rnd (rnds s ws n) (kT.getD n 0) (ws.getD n 0)
def St.add (s t : St) : St := ⟨s.a + t.a, s.b + t.b, s.c + t.c, s.d + t.d, s.e + t.e, s.f + t.f, s.g + t.g, s.h + t.h⟩
/-- The state behind one block more. -/
def mix (s : St) (b : List (BitVec 8)) : St := s.add (rnds s (wordsOf b 48) 64)

/-- The first n words are added. -/
def addN (s t : List (BitVec 32)) (n : Nat) : List (BitVec 32) := (List.zipWith (· + ·) s t).take n ++ s.drop n
theorem addN_len (s t : List (BitVec 32)) (n : Nat) (h : s.length = t.length) (hn : n ≤ s.length) : (addN s t n).length = s.length := by
  simp [addN]; omega
theorem addN_get (s t : List (BitVec 32)) (n : Nat) (h : s.length = t.length) (hn : n < s.length) : (wcells (addN s t n))[n]? = some (.int .u32 (u (s.getD n 0))) := by
  have hl := addN_len s t n h (by omega)
  rw [wcells_get (by omega)]
  simp only [addN]
  rw [List.getElem_append_right (by simp; omega)]
  simp [show min n (min s.length t.length) = n by omega, List.getElem?_eq_getElem hn]
theorem addN_set (s t : List (BitVec 32)) (n : Nat) (h : s.length = t.length) (hn : n < s.length) : (addN s t n).set n (s.getD n 0 + t.getD n 0) = addN s t (n + 1) := by
  have hz : n < (List.zipWith (· + ·) s t).length := by simp; omega
  have e : ((List.zipWith (· + ·) s t).take n).length = n := by simp; omega
  have e1 : s.getD n 0 + t.getD n 0 = (List.zipWith (· + ·) s t)[n] := by
    simp [List.getElem?_eq_getElem hn, List.getElem?_eq_getElem (show n < t.length by omega)]
  unfold addN
  rw [List.take_succ_eq_append_getElem hz, List.drop_eq_getElem_cons hn, List.set_append_right _ _ (by omega), e, Nat.sub_self, List.set_cons_zero, e1, List.append_assoc]
  rfl

theorem run_index_words (t : TypeId) (n : Nat) (hu : Tryd.prog.underlying t = some (.array n 85)) (ws : List (BitVec 32)) (hl : ws.length = n) (j : Nat) (hj : j < n) (w : World) :
    (Instr.index t (.agg (wcells ws).toArray) (.int .i64 (j : Int))).run Tryd.prog w = .ok (.int .u32 (u (ws.getD j 0))) w := by
  have h1 : (wcells ws)[j]? = some (.int .u32 (u (ws[j]?.getD 0#32))) := by
    rw [wcells_get (by omega)]
    simp [List.getElem?_eq_getElem (show j < ws.length by omega)]
  have hn : (0 : Int) ≤ (j : Int) ∧ (j : Int) < (n : Int) := by omega
  have h2 : (sizeOf 85).run Tryd.prog w = .ok 1 w := by kernel_rfl
  simp [Instr.index, run_underlying hu, asIntOf, h2, part, h1, go_sem, hj]
end Go.Proofs.YtaklbofbhanjgaaDoor
