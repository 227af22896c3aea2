import Derived.Test.YtfhjiggaacgncaaDoorJg6
namespace Go.Proofs.YtfhjiggaacgncaaDoor
open Go.RowKit Go.Maps Go.Sort
set_option maxRecDepth 100000

/-- What the law knows of the log: kinds and bodies. -/
structure Pb where
  b : Nat
  kv : Value
  bv : Value
  V : List (Value × (BitVec 8 × List (BitVec 8)))
def Pb.L (F : Pb) : List (BitVec 8 × List (BitVec 8)) := F.V.map (·.2)
structure PbAt (w : World) (base : Nat) (F : Pb) : Prop where
  row : Row w F.b [F.kv, F.bv] 46
  hb : base ≤ F.b
  kinds : w.ownsRow base 5 1 F.kv F.V.length (bcells (F.V.map (·.2.1)))
  bodies : w.ownsRow base 30 1 F.bv F.V.length (F.V.map (·.1))
  by_ : ∀ x ∈ F.V, OwnBy w base x.1 x.2.2
  ap : ∀ x ∈ F.V, ∀ g, x.1.ownBlock = some g → F.kv.ownBlock ≠ some g
def Pb.Mem (F : Pb) (k : Nat) : Prop := k = F.b ∨ F.kv.ownBlock = some k ∨ F.bv.ownBlock = some k ∨ ∃ x ∈ F.V, x.1.ownBlock = some k
theorem PbAt.fr {w w' : World} {base : Nat} {F : Pb} {X : Nat → Prop} (h : PbAt w base F) (hf : Fr X w w') (hX : ∀ k, F.Mem k → ¬ X k) : PbAt w' base F :=
  ⟨hf.row h.row (hX _ (.inl rfl)), h.hb, hf.own h.kinds (fun x e => hX x (.inr (.inl e))), hf.own h.bodies (fun x e => hX x (.inr (.inr (.inl e)))), fun x hx => hf.own (h.by_ x hx) (fun g e => hX g (.inr (.inr (.inr ⟨x, hx, e⟩)))), h.ap⟩
theorem PbAt.lt {w : World} {base : Nat} {F : Pb} (h : PbAt w base F) {k : Nat} (hk : F.Mem k) : k < w.heap.size := by
  rcases hk with rfl | e | e | ⟨x, hx, e⟩
  · exact h.row.lt
  · exact own_lt h.kinds e
  · exact own_lt h.bodies e
  · exact own_lt (h.by_ x hx) e
theorem PbAt.kept {w w' : World} {base : Nat} {F : Pb} (h : PbAt w base F) (hb : Below w.heap.size w w') : PbAt w' base F := h.fr (X := fun _ => False) (Fr.of_below hb (Nat.le_refl _)) (fun _ _ e => e)
theorem PbAt.ge {w : World} {base : Nat} {F : Pb} (h : PbAt w base F) {k : Nat} (hk : F.Mem k) : base ≤ k := by
  rcases hk with rfl | e | e | ⟨x, hx, e⟩
  · exact h.hb
  · exact own_ge h.kinds e
  · exact own_ge h.bodies e
  · exact own_ge (h.by_ x hx) e
theorem own_cell {w : World} {base : Nat} {t : TypeId} {v : Value} {n : Nat} {xs : List Value} (h : w.ownsRow base t 1 v n xs) (_hl : xs.length = n) {j : Nat} (hj : j < n) : ∃ g cap, v = .slice (some ⟨g, 0, none⟩) n cap ∧ w.cell? ⟨g, j, none⟩ = xs[j]? := by
  obtain ⟨_, ⟨rfl, hn⟩ | ⟨g, cap, cur, rfl, hb, hg, hnc, hcm, hcs, htk⟩⟩ := h
  · omega
  · refine ⟨g, cap, rfl, ?_⟩
    rw [cell_of_row w g _ _ _ _ hg, ← htk, List.getElem?_take, if_pos (by omega), Array.getElem?_toList]
set_option maxHeartbeats 4000000 in
/-- Are these records those that were put, from the first one on? -/
theorem is_any {w : World} {base B : Nat} {F : Pb} (h : PbAt w base F) {v : Value} {L : List (BitVec 8 × List (BitVec 8))} (hR : RecV w B v L) (hl : F.V.length ≤ 1099511627776) (hp : L = F.L.take L.length) (hlen : L.length ≤ F.L.length) :
    Calls Tryd.prog 24 #[pt F.b 0, v] w fun e w' => e = .returned (.bool true) ∧ Below w.heap.size w w' := by
  obtain ⟨R, hRL, hRo, hRb⟩ := hR
  have hRlen : R.length = L.length := by rw [← hRL]; simp
  have hFl : F.L.length = F.V.length := by simp [Pb.L]
  obtain ⟨ra, rc, er, hr1, hr2, _⟩ := own_len hRo
  obtain ⟨ka, kc, ek, hk1, hk2, _⟩ := own_len h.kinds
  obtain ⟨ba, bc, eb, hb1, hb2, _⟩ := own_len h.bodies
  have HRND : Hid (∀ wr j, Below w.heap.size w wr → j < R.length → ∃ g gk gb xa xn xc ya yn yc, ra = some ⟨g, 0, none⟩ ∧ ka = some ⟨gk, 0, none⟩ ∧ ba = some ⟨gb, 0, none⟩ ∧ wr.cell? ⟨F.b, 0, none⟩ = some (.slice ka F.V.length kc) ∧ wr.cell? ⟨F.b, 1, none⟩ = some (.slice ba F.V.length bc) ∧
      wr.cell? ⟨g, j * 3, none⟩ = some (.int .u64 (j : Nat)) ∧ wr.cell? ⟨g, j * 3 + 1, none⟩ = some (.int .u8 (ub (R[j]?.getD ⟨0#8, undef, []⟩).k)) ∧ wr.cell? ⟨g, j * 3 + 2, none⟩ = some (.slice xa xn xc) ∧ wr.cell? ⟨gk, j, none⟩ = some (.int .u8 (ub (R[j]?.getD ⟨0#8, undef, []⟩).k)) ∧ wr.cell? ⟨gb, j, none⟩ = some (.slice ya yn yc) ∧
      ∀ w1, Below wr.heap.size wr w1 → Calls Tryd.prog 16 #[.slice xa xn xc, .slice ya yn yc] w1 fun e w' => e = .returned (.bool true) ∧ w' = w1) := by
    intro wr j hb hj
    have hjV : j < F.V.length := by omega
    have hjL : j < L.length := by omega
    have e1 : L[j]? = some (R[j].k, R[j].b) := by rw [← hRL]; simp [hj]
    have e2 : L[j]? = F.L[j]? := by
      conv => lhs; rw [hp]
      rw [List.getElem?_take, if_pos hjL]
    have e3 : F.V[j].2 = (R[j].k, R[j].b) := by
      rw [e1] at e2
      simp [Pb.L, hjV] at e2
      exact e2.symm
    have hx := hRb _ (List.getElem_mem hj)
    have hy := h.by_ _ (List.getElem_mem hjV)
    rw [e3] at hy
    obtain ⟨xa, xc, ex, hBx, _⟩ := ownBy_shape hx
    obtain ⟨ya, yc, ey, hBy, _⟩ := ownBy_shape hy
    obtain ⟨gk, capk, ek', ck⟩ := own_cell h.kinds (by simp [bcells_len]) hjV
    obtain ⟨gb, capb, eb', cb⟩ := own_cell h.bodies (by simp) hjV
    obtain ⟨_, ⟨e', hz⟩ | ⟨g, cap, cur, e', hgb, hg, hnc, hcm, hcs, htk⟩⟩ := hRo
    · omega
    · rw [er] at e'
      rw [ek] at ek'
      rw [eb] at eb'
      injection e' with r1 r2 r3
      injection ek' with k1 k2 k3
      injection eb' with b1 b2 b3
      have rcell : ∀ i, i < 3 → wr.cell? ⟨g, j * 3 + i, none⟩ = (rcells (0 + j) R[j])[i]? := fun i hi => by
        have := flatR_at R 0 j i hj hi
        rw [← htk, List.getElem?_take, if_pos (by omega), Array.getElem?_toList] at this
        have h0 : w.cell? ⟨g, j * 3 + i, none⟩ = (rcells (0 + j) R[j])[i]? := by rw [cell_of_row w g _ _ _ _ hg]; exact this
        have hi3 : i < (rcells (0 + j) R[j]).length := hi
        obtain ⟨val, hv⟩ : ∃ val, (rcells (0 + j) R[j])[i]? = some val := ⟨_, List.getElem?_eq_getElem hi3⟩
        rw [hv] at h0 ⊢
        exact cell_kept hb h0
      have eg : R[j]?.getD ⟨0#8, undef, []⟩ = R[j] := by rw [List.getElem?_eq_getElem hj]; rfl
      refine ⟨g, gk, gb, xa, R[j].b.length, xc, ya, R[j].b.length, yc, r1, k1, b1, ?_, ?_, ?_, ?_, ?_, ?_, ?_, fun w1 hb1 => ?_⟩
      · exact cell_kept hb (by rw [← ek]; exact h.row.cell 0 _ rfl)
      · exact cell_kept hb (by rw [← eb]; exact h.row.cell 1 _ rfl)
      · have := rcell 0 (by omega)
        rw [Nat.zero_add] at this
        exact this
      · rw [eg]; exact rcell 1 (by omega)
      · have := rcell 2 (by omega)
        rw [this]
        show some R[j].v = _
        rw [ex]
      · refine cell_kept hb (ck.trans ?_)
        rw [bcells_get (by simpa using hjV), eg]
        simp [e3]
      · refine cell_kept hb (cb.trans ?_)
        simp [hjV, ey]
      · have hs := psame_any (c := xc) (c' := yc) ((hBx.kept hb).kept hb1) rfl ((hBy.kept hb).kept hb1) rfl
        rw [decide_eq_true rfl] at hs
        exact hs
  have c0 := h.row.cell 0 _ rfl
  rw [ek] at c0
  have i1 : (R.length : Int) ≤ F.V.length := by omega
  have i2 : (F.V.length : Int) ≤ 1099511627776 := by omega
  rw [er]
  clear h hRo hRb hRL hp hlen hRlen hFl er ek eb hr1 hr2 hk1 hk2 hb1 hb2
  go_enter Tryd.func24, Tryd.ntmps24
  go_wp2
  go_loopw [17] (fun i wr => ∃ k : Nat, k ≤ R.length ∧ i = .int .i64 k ∧ Hid (Below w.heap.size w wr)) (fun i _ => R.length - (intOf i).toNat)
  case atStart => exact ⟨0, Nat.zero_le _, rfl, Below.refl _ _⟩
  case round =>
    obtain ⟨k, hk, rfl, HB⟩ := hrel
    by_cases hlt : k < R.length
    · obtain ⟨g, gk, gb, xa, xn, xc, ya, yn, yc, rfl, rfl, rfl, d0, d1, d2, d3, d4, d5, d6, hS⟩ := HRND.out wr k HB.out hlt
      have HS := hid hS
      clear hS HRND
      generalize (R[k]?.getD ⟨0#8, undef, []⟩).k = kk at *
      have j1 : (k : Int) < F.V.length := by omega
      have j2 : IntKind.u64.wrap (k : Int) = (k : Nat) := by rw [IntKind.wrap_u64]; omega
      have j3 : (k : Int) < R.length := by omega
      go_upto_region 6 with fail
      have hb1 := below_new wr (.cells #[.int .u64 (k : Nat), .int .u8 (ub kk), .slice xa xn xc] 41)
      have R1 := Row.new wr [.int .u64 (k : Nat), .int .u8 (ub kk), .slice xa xn xc] 41
      have e0 := cell_kept hb1 d0
      have e1 := cell_kept hb1 d1
      have e5 := cell_kept hb1 d5
      have e6 := cell_kept hb1 d6
      have HS2 : Hid (∀ n, Calls Tryd.prog 16 #[.slice xa xn xc, .slice ya yn yc] ((wr.alloc (.cells #[.int .u64 (k : Nat), .int .u8 (ub kk), .slice xa xn xc] 41)).drewN n) fun e w' => e = .returned (.bool true) ∧ w' = (wr.alloc (.cells #[.int .u64 (k : Nat), .int .u8 (ub kk), .slice xa xn xc] 41)).drewN n) := fun n => HS.out _ (below_drewN hb1 n)
      have HB1 := hid hb1
      have hall := And.intro R1 (And.intro e0 (And.intro e1 (And.intro e5 (And.intro e6 (And.intro HS2 HB1)))))
      clear R1 e0 e1 e5 e6 HS2 HB1 hb1 HS d0 d1 d2 d3 d4 d5 d6
      revert hall
      generalize wr.alloc (.cells #[.int .u64 (k : Nat), .int .u8 (ub kk), .slice xa xn xc] 41) = w2
      rintro ⟨R1, e0, e1, e5, e6, HS2, HB1⟩
      have r0 := R1.cell 0 _ rfl
      have r1 := R1.cell 1 _ rfl
      have r2 := R1.cell 2 _ rfl
      clear R1
      go_quiet ((go_at_call 16; exact Calls.quiet_of_same (HS2.out _)))
      go_wp2
      go_roundw
      case rel => exact ⟨k + 1, hlt, by go_num, below_drewN (below_two HB.out HB1.out (Nat.le_refl _)) _⟩
      case measure => simp [intOf]; omega
    · obtain rfl : k = R.length := by omega
      clear HRND
      go_wp2
      go_ret
      exact ⟨rfl, HB.out⟩
end Go.Proofs.YtfhjiggaacgncaaDoor
